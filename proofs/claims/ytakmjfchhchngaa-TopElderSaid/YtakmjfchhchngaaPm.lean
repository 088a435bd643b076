/- Maps that a call makes, fills and asks, and out of which nothing is taken: as lists of keys with their values. -/
import Derived.Test.YtakmjfchhchngaaCnt
import Derived.Laws.StructEq
namespace Go.Proofs.Ytakmjfchhchngaa
open Go.RowKit Go.Maps
open Go.ChangeMaps (setBlock heap_setBlock_same heap_setBlock_other)

abbrev plV (q : Int × Int) : Value := .agg #[.int .i64 q.1, .int .i64 q.2]
theorem equal_place (q r : Int × Int) (w : World) : (Op.equal 162 (plV q) (plV r)).run Try.prog w = .ok (decide (q = r)) w := by
  obtain ⟨x, y⟩ := q
  obtain ⟨a, b⟩ := r
  have u3 := Try.underlying3
  have a3 := Try.isAgg3
  have z3 := Try.sizeOf3
  have hS : Try.prog.underlying 162 = some (.struct (Try.prog.fieldsOf 162)) := by kernel_rfl
  have hp : Try.prog.stoodInHeld 162 = false := by kernel_rfl
  unfold Op.equal Op.maxDepth
  rw [show (10000 : Nat) = 9999 + 1 from rfl, run_equalIn_agg w 9999 162 _ _ hS hp]
  simp only [Program.fieldsOf, Try.underlying162]
  go_simp
  by_cases h1 : x = a <;> by_cases h2 : y = b <;> simp [h1, h2]
theorem check_place (e : Bool) (q : Int × Int) (w : World) : (Instr.checkKey e 10000 162 (plV q)).run Try.prog w = .ok () w := by kernel_rfl
theorem zero_place (w : World) : (zeroValue 162).run Try.prog w = .ok (plV (0, 0)) w := by kernel_rfl
theorem check_int (e : Bool) (z : Int) (w : World) : (Instr.checkKey e 10000 3 (.int .i64 z)).run Try.prog w = .ok () w := by kernel_rfl

section
variable {κ : Type}

def entF (c : κ → Value) (l : List (κ × Value)) (i : Nat) : List MapEntry :=
  match l with
  | [] => []
  | q :: r => ⟨c q.1, q.2, i⟩ :: entF c r (i + 1)
/- Block B is the map that holds l, its keys coded by c. -/
def PM (w : World) (B : Nat) (c : κ → Value) (l : List (κ × Value)) : Prop := w.heap[B]? = some (.map (entF c l 0).toArray l.length)

theorem entF_length (c : κ → Value) : ∀ (l : List (κ × Value)) (i : Nat), (entF c l i).length = l.length
  | [], _ => rfl
  | q :: r, i => by rw [entF, List.length_cons, List.length_cons, entF_length c r (i + 1)]
theorem entF_append (c : κ → Value) (l : List (κ × Value)) (q : κ × Value) : ∀ i, entF c (l ++ [q]) i = entF c l i ++ [⟨c q.1, q.2, i + l.length⟩] := by
  induction l with
  | nil => intro i; rfl
  | cons p r ih =>
    intro i
    rw [List.cons_append, entF, entF, ih (i + 1), List.cons_append, List.length_cons]
    congr 4
    omega
theorem entF_get (c : κ → Value) : ∀ (l : List (κ × Value)) (i j : Nat), (entF c l i)[j]? = (l[j]?).map fun q => ⟨c q.1, q.2, i + j⟩
  | [], _, _ => rfl
  | q :: r, i, 0 => rfl
  | q :: r, i, j + 1 => by
    rw [entF, List.getElem?_cons_succ, List.getElem?_cons_succ, entF_get c r (i + 1) j]
    have : i + 1 + j = i + (j + 1) := by omega
    rw [this]
theorem entF_set (c : κ → Value) (k : κ) (v : Value) (l : List (κ × Value)) (i j : Nat) : (entF c l i).set j ⟨c k, v, i + j⟩ = entF c (l.set j (k, v)) i := by
  apply List.ext_getElem?
  intro m
  rw [List.getElem?_set, entF_get, entF_get, entF_length, List.getElem?_set]
  by_cases e : j = m
  · subst e
    by_cases h : j < l.length <;> simp [h]
  · simp [e]
theorem entF_born (c : κ → Value) : ∀ (l : List (κ × Value)) (i j : Nat), j < l.length → (entF c l i).findIdx? (fun e => ((e.born : Nat) : Int) == ((i + j : Nat) : Int)) = some j
  | [], _, _, h => by simp at h
  | q :: r, i, 0, _ => by simp [entF, List.findIdx?_cons]
  | q :: r, i, j + 1, h => by
    rw [entF, List.findIdx?_cons]
    have h1 : ((((i : Nat) : Int)) == ((i + (j + 1) : Nat) : Int)) = false := by simp; omega
    simp only [h1]
    have e : i + (j + 1) = i + 1 + j := by omega
    rw [e, entF_born c r (i + 1) j (by simpa using h)]
    rfl

end

section
variable {κ : Type} [DecidableEq κ]

/- Where a key stands, from place i on. -/
def seekL (k : κ) : List (κ × Value) → Nat → Option (Nat × Value)
  | [], _ => none
  | q :: r, i => if k = q.1 then some (i, q.2) else seekL k r (i + 1)
def getL (k : κ) (l : List (κ × Value)) : Option Value := (seekL k l 0).map (·.2)
def putL (k : κ) (v : Value) (l : List (κ × Value)) : List (κ × Value) :=
  match seekL k l 0 with
  | some (i, _) => l.set i (k, v)
  | none => l ++ [(k, v)]
def laidL (k : κ) (z : Value) (l : List (κ × Value)) : List (κ × Value) :=
  match seekL k l 0 with
  | some _ => l
  | none => l ++ [(k, z)]
theorem seekL_lt {k : κ} : ∀ {l : List (κ × Value)} {i j : Nat} {v : Value}, seekL k l i = some (j, v) → i ≤ j ∧ j < i + l.length ∧ l[j - i]? = some (k, v)
  | [], i, j, v, h => by simp [seekL] at h
  | q :: r, i, j, v, h => by
    unfold seekL at h
    split at h
    · rename_i e
      cases h
      refine ⟨Nat.le_refl _, by simp, ?_⟩
      rw [Nat.sub_self]
      simp [e]
    · obtain ⟨h1, h2, h3⟩ := seekL_lt h
      refine ⟨by omega, by simp only [List.length_cons]; omega, ?_⟩
      have e : j - i = (j - (i + 1)) + 1 := by omega
      rw [e, List.getElem?_cons_succ]
      exact h3
theorem seekL_shift (k : κ) (l : List (κ × Value)) (i n : Nat) : seekL k l (i + n) = (seekL k l i).map (fun q => (q.1 + n, q.2)) := by
  induction l generalizing i with
  | nil => rfl
  | cons q r ih =>
    unfold seekL
    by_cases h : k = q.1
    · simp [h]
    · rw [if_neg h, if_neg h, ← ih (i + 1)]
      congr 1
      omega
theorem seekL_append (k : κ) (l m : List (κ × Value)) (i : Nat) : seekL k (l ++ m) i = (seekL k l i).or (seekL k m (i + l.length)) := by
  induction l generalizing i with
  | nil => simp [seekL]
  | cons q r ih =>
    rw [List.cons_append, seekL, seekL]
    by_cases h : k = q.1
    · simp [h]
    · have e : i + 1 + r.length = i + (q :: r).length := by simp only [List.length_cons]; omega
      rw [if_neg h, if_neg h, ih (i + 1), e]
theorem getL_append (k : κ) (l m : List (κ × Value)) : getL k (l ++ m) = (getL k l).or (getL k m) := by
  unfold getL
  rw [seekL_append, Nat.zero_add]
  have := seekL_shift k m 0 l.length
  rw [Nat.zero_add] at this
  rw [this]
  cases seekL k l 0 <;> cases seekL k m 0 <;> rfl
theorem getL_nil (k : κ) : getL k ([] : List (κ × Value)) = none := rfl
theorem getL_cons (k : κ) (q : κ × Value) (r : List (κ × Value)) : getL k (q :: r) = if k = q.1 then some q.2 else getL k r := by
  unfold getL
  rw [seekL]
  split
  · rfl
  · have := seekL_shift k r 0 1
    rw [this]
    cases seekL k r 0 <;> rfl
theorem getL_set {k : κ} {v : Value} : ∀ {l : List (κ × Value)} {i j : Nat} {u : Value}, seekL k l i = some (j, u) → ∀ k', getL k' (l.set (j - i) (k, v)) = if k' = k then some v else getL k' l
  | [], i, j, u, h => by simp [seekL] at h
  | q :: r, i, j, u, h => by
    intro k'
    unfold seekL at h
    split at h
    · rename_i e
      cases h
      rw [Nat.sub_self, List.set_cons_zero, getL_cons, getL_cons, ← e]
      by_cases h' : k' = k <;> simp [h']
    · rename_i e
      obtain ⟨h1, _, _⟩ := seekL_lt h
      have hj : j - i = (j - (i + 1)) + 1 := by omega
      rw [hj, List.set_cons_succ, getL_cons, getL_cons, getL_set h k']
      by_cases h' : k' = q.1
      · simp [h']
        intro x
        exact absurd x.symm e
      · simp [h']
theorem getL_put (k k' : κ) (v : Value) (l : List (κ × Value)) : getL k' (putL k v l) = if k' = k then some v else getL k' l := by
  unfold putL
  cases h : seekL k l 0 with
  | none =>
    simp only
    rw [getL_append, getL_cons, getL_nil]
    by_cases e : k' = k
    · subst e
      have : getL k' l = none := by unfold getL; rw [h]; rfl
      simp [this]
    · simp [e]
  | some q =>
    obtain ⟨j, u⟩ := q
    exact getL_set h k'
theorem getL_laid (k k' : κ) (z : Value) (l : List (κ × Value)) : (getL k' (laidL k z l)).getD z = (getL k' l).getD z := by
  unfold laidL
  cases h : seekL k l 0 with
  | some q => rfl
  | none =>
    simp only
    rw [getL_append, getL_cons, getL_nil]
    cases getL k' l with
    | some v => rfl
    | none => by_cases e : k' = k <;> simp [e]
theorem putL_length (k : κ) (v : Value) (l : List (κ × Value)) : (putL k v l).length ≤ l.length + 1 := by
  unfold putL
  split <;> simp

/- Finding a key, whatever its kind. -/
def Finds (kt : TypeId) (c : κ → Value) : Prop := ∀ (k : κ) (l : List (κ × Value)) (w : World), (Instr.findKey kt (c k) (entF c l 0)).run Try.prog w = .ok (seekL k l 0) w
end

theorem findAsking_place (q : Int × Int) (w : World) : ∀ (l : List ((Int × Int) × Value)) (i : Nat), (Instr.findAsking 162 (plV q) (entF plV l i) i).run Try.prog w = .ok (seekL q l i) w
  | [], i => rfl
  | p :: r, i => by
    rw [entF, Instr.findAsking]
    simp only [Sem.run_bind, equal_place, Result.andThen_ok, seekL]
    by_cases h : q = p.1
    · simp [h]
    · simp [h, findAsking_place q w r (i + 1)]
theorem findNow_place (q : Int × Int) (l : List ((Int × Int) × Value)) (i : Nat) : ∀ fs, Instr.findNow (.struct fs) (plV q) (entF plV l i) i = if l = [] then some none else none := by
  intro fs
  cases l with
  | nil => rfl
  | cons p r => rfl
theorem finds_place : Finds 162 plV := fun q l w => by
  unfold Instr.findKey
  simp only [Sem.run_bind, run_underlying Try.underlying162, Result.andThen_ok, findNow_place]
  cases l with
  | nil => rfl
  | cons p r =>
    simp only [reduceCtorEq, if_false]
    exact findAsking_place q w (p :: r) 0
abbrev inV (z : Int) : Value := .int .i64 z
theorem findNow_int (z : Int) (k : IntKind) : ∀ (l : List (Int × Value)) (i : Nat), Instr.findNow (.int k) (inV z) (entF inV l i) i = some (seekL z l i)
  | [], _ => rfl
  | p :: r, i => by
    rw [entF, Instr.findNow, seekL]
    have : Instr.sameNow (.int k) (inV z) (inV p.1) = some (z == p.1) := by simp [Instr.sameNow]
    rw [this]
    by_cases h : z = p.1
    · simp [h]
    · have h2 : (z == p.1) = false := by simpa using h
      rw [h2, if_neg h]
      exact findNow_int z k r (i + 1)
theorem finds_int : Finds 3 inV := fun z l w => by
  unfold Instr.findKey
  simp only [Sem.run_bind, run_underlying Try.underlying3, Result.andThen_ok, findNow_int]
  rfl

/- What the operations on such a map do. -/
section
variable {κ : Type} {c : κ → Value}
theorem PM.made (w : World) (c : κ → Value) : PM (w.alloc (.map #[] 0)) w.heap.size c [] := heap_alloc_new w _
theorem PM.other {w w' : World} {B : Nat} {l : List (κ × Value)} (h : PM w B c l) (hb : w'.heap[B]? = w.heap[B]?) : PM w' B c l := hb.trans h
theorem PM.lt {w : World} {B : Nat} {l : List (κ × Value)} (h : PM w B c l) : B < w.heap.size := (Array.getElem?_eq_some_iff.1 h).1
theorem PM.below {w w' : World} {B : Nat} {l : List (κ × Value)} (h : PM w B c l) (hb : Below w.heap.size w w') : PM w' B c l := h.other (hb.block B h.lt)
theorem PM.grown {w w' : World} {B : Nat} {l : List (κ × Value)} {r : Option Nat} (h : PM w B c l) (hg : w.grownBy w' r) (hne : some B ≠ r) : PM w' B c l := h.other (hg.block B h.lt hne)
theorem modify_set {es : List MapEntry} {i : Nat} {e : MapEntry} (h : es[i]? = some e) (f : MapEntry → MapEntry) : es.toArray.modify i f = (es.set i (f e)).toArray := by
  apply Array.ext'
  rw [Array.toList_modify, List.toList_toArray]
  apply List.ext_getElem?
  intro j
  rw [List.getElem?_modify, List.getElem?_set]
  by_cases e1 : i = j
  · subst e1
    have hl := (List.getElem?_eq_some_iff.1 h).1
    have he : es[i] = e := (List.getElem?_eq_some_iff.1 h).2
    simp [hl, he]
  · simp [e1]
theorem grown_setBlock {w : World} {B : Nat} {es : Array MapEntry} {n : Nat} (h : w.heap[B]? = some (.map es n)) (o : Obj) : w.grownBy (setBlock w B o) (some B) ∧ (setBlock w B o).heap[B]? = some o :=
  ⟨⟨rfl, rfl, rfl, by simp [setBlock], fun i _ hi => heap_setBlock_other h _ (fun e => hi (by rw [e]))⟩, heap_setBlock_same h _⟩
theorem PM.fill {mt : TypeId} {w : World} {B : Nat} {l : List (κ × Value)} (h : PM w B c l) {k : κ} {u : Value} {i : Nat} (hi : l[i]? = some (k, u)) (v : Value) :
    ∃ w', (Instr.entryStore mt (.map (some B)) (.int .i64 i) v).run Try.prog w = .ok () w' ∧ PM w' B c (l.set i (k, v)) ∧ w.grownBy w' (some B) := by
  have hlt := (List.getElem?_eq_some_iff.1 hi).1
  have hb : (entF c l 0).findIdx? (fun e => ((e.born : Nat) : Int) == ((i : Nat) : Int)) = some i := by
    have := entF_born c l 0 i hlt
    rwa [Nat.zero_add] at this
  have he : (entF c l 0)[i]? = some ⟨c k, u, i⟩ := by rw [entF_get, hi, Nat.zero_add]; rfl
  have hm : (entF c l 0).toArray.modify i (fun e => { e with val := v }) = (entF c (l.set i (k, v)) 0).toArray := by
    rw [modify_set he, ← entF_set, Nat.zero_add]
  have hg := grown_setBlock h (.map (entF c (l.set i (k, v)) 0).toArray l.length)
  refine ⟨_, ?_, ?_, hg.1⟩
  · rw [← hm]
    simp [Instr.entryStore, MapKept.run_getObj_map h, asInt, asIntOf, hb, MapKept.run_setObj_map _ h, Result.andThen, setBlock]
  · have := hg.2
    unfold PM
    rw [List.length_set]
    exact this
end
section
variable {κ : Type} [DecidableEq κ]
structure Kind (mt kt et : TypeId) (c : κ → Value) (z : Value) : Prop where
  map : Try.prog.underlying mt = some (.map kt et)
  finds : Finds kt c
  check : ∀ e k w, (Instr.checkKey e 10000 kt (c k)).run Try.prog w = .ok () w
  zero : ∀ w, (zeroValue et).run Try.prog w = .ok z w
  same : ∀ k, Instr.sameBits 10000 (c k) (c k) = true
variable {mt kt et : TypeId} {c : κ → Value} {z : Value}

theorem Kind.stays (K : Kind mt kt et c z) (k : κ) (w : World) : (Instr.keyThatStays (c k) (c k)).run Try.prog w = .ok (c k) w := by
  unfold Instr.keyThatStays
  rw [if_pos (K.same k)]
  rfl
theorem PM.look (K : Kind mt kt et c z) {w : World} {B : Nat} {l : List (κ × Value)} (h : PM w B c l) (k : κ) : (Instr.lookup mt (.map (some B)) (c k) false).run Try.prog w = .ok ((getL k l).getD z) w := by
  have hf := K.finds k l w
  unfold getL
  cases hs : seekL k l 0 with
  | none =>
    rw [hs] at hf
    simp [Instr.lookup, run_underlying K.map, MapKept.run_getObj_map h, K.check, hf, K.zero, Result.andThen]
  | some q =>
    rw [hs] at hf
    simp [Instr.lookup, run_underlying K.map, MapKept.run_getObj_map h, K.check, hf, Result.andThen]
theorem PM.lookOk (K : Kind mt kt et c z) {w : World} {B : Nat} {l : List (κ × Value)} (h : PM w B c l) (k : κ) : (Instr.lookup mt (.map (some B)) (c k) true).run Try.prog w = .ok (.tuple #[(getL k l).getD z, .bool (getL k l).isSome]) w := by
  have hf := K.finds k l w
  unfold getL
  cases hs : seekL k l 0 with
  | none =>
    rw [hs] at hf
    simp [Instr.lookup, run_underlying K.map, MapKept.run_getObj_map h, K.check, hf, K.zero, Result.andThen]
  | some q =>
    rw [hs] at hf
    simp [Instr.lookup, run_underlying K.map, MapKept.run_getObj_map h, K.check, hf, Result.andThen]
theorem ent_at {k : κ} {l : List (κ × Value)} {i : Nat} {v : Value} (h : seekL k l 0 = some (i, v)) (c : κ → Value) : (entF c l 0)[i]? = some ⟨c k, v, i⟩ := by
  obtain ⟨_, _, h3⟩ := seekL_lt h
  rw [Nat.sub_zero] at h3
  rw [entF_get, h3, Nat.zero_add]
  rfl
theorem grown_twice {w w1 w2 : World} {r : Option Nat} (h : w.grownBy w1 r) (g : w1.grownBy w2 r) : w.grownBy w2 r :=
  ⟨g.os.trans h.os, g.tape.trans h.tape, g.output.trans h.output, Nat.le_trans h.size g.size, fun k hk hne => (g.block k (Nat.lt_of_lt_of_le hk h.size) hne).trans (h.block k hk hne)⟩
theorem PM.put (K : Kind mt kt et c z) {w : World} {B : Nat} {l : List (κ × Value)} (h : PM w B c l) (k : κ) (v : Value) :
    ∃ w', (Instr.mapUpdate mt (.map (some B)) (c k) v).run Try.prog w = .ok () w' ∧ PM w' B c (putL k v l) ∧ w.grownBy w' (some B) := by
  have hf := K.finds k l w
  unfold putL
  cases hs : seekL k l 0 with
  | none =>
    rw [hs] at hf
    have hm : (entF c l 0).toArray.push ⟨c k, v, l.length⟩ = (entF c (l ++ [(k, v)]) 0).toArray := by rw [entF_append, Nat.zero_add, List.push_toArray]
    have hg := grown_setBlock h (.map (entF c (l ++ [(k, v)]) 0).toArray (l.length + 1))
    refine ⟨_, ?_, ?_, hg.1⟩
    · rw [← hm]
      simp [Instr.mapUpdate, run_underlying K.map, MapKept.run_getObj_map h, K.check, hf, MapKept.run_setObj_map _ h, Result.andThen, setBlock]
    · have := hg.2
      simp only
      unfold PM
      rw [List.length_append]
      exact this
  | some q =>
    obtain ⟨i, u⟩ := q
    rw [hs] at hf
    have he := ent_at hs c
    have hm : (entF c l 0).toArray.modify i (fun e => { e with key := c k, val := v }) = (entF c (l.set i (k, v)) 0).toArray := by
      rw [modify_set he, ← entF_set, Nat.zero_add]
    have hg := grown_setBlock h (.map (entF c (l.set i (k, v)) 0).toArray l.length)
    refine ⟨_, ?_, ?_, hg.1⟩
    · rw [← hm]
      simp [Instr.mapUpdate, run_underlying K.map, MapKept.run_getObj_map h, K.check, hf, he, K.stays, MapKept.run_setObj_map _ h, Result.andThen, setBlock]
    · have := hg.2
      simp only
      unfold PM
      rw [List.length_set]
      exact this
/- 'm[k] op= v': the entry is laid, then filled. -/
theorem PM.entry (K : Kind mt kt et c z) {w : World} {B : Nat} {l : List (κ × Value)} (h : PM w B c l) (k : κ) (v : Value) :
    ∃ w1 w2 i, (Instr.mapEntry mt (.map (some B)) (c k)).run Try.prog w = .ok (.tuple #[(getL k l).getD z, .int .i64 i]) w1 ∧ PM w1 B c (laidL k z l) ∧ w.grownBy w1 (some B) ∧
      (Instr.entryStore mt (.map (some B)) (.int .i64 i) v).run Try.prog w1 = .ok () w2 ∧ PM w2 B c (putL k v l) ∧ w.grownBy w2 (some B) := by
  have hf := K.finds k l w
  unfold putL getL laidL
  cases hs : seekL k l 0 with
  | none =>
    rw [hs] at hf
    have hm : (entF c l 0).toArray.push ⟨c k, z, l.length⟩ = (entF c (l ++ [(k, z)]) 0).toArray := by rw [entF_append, Nat.zero_add, List.push_toArray]
    have hg := grown_setBlock h (.map (entF c (l ++ [(k, z)]) 0).toArray (l.length + 1))
    have h1 : PM (setBlock w B (.map (entF c (l ++ [(k, z)]) 0).toArray (l.length + 1))) B c (l ++ [(k, z)]) := by
      have := hg.2
      unfold PM
      rw [List.length_append]
      exact this
    obtain ⟨w2, hr2, hp2, hg2⟩ := h1.fill (mt := mt) (i := l.length) (k := k) (u := z) (by simp) v
    refine ⟨_, w2, l.length, ?_, h1, hg.1, hr2, ?_, grown_twice hg.1 hg2⟩
    · rw [← hm]
      simp [Instr.mapEntry, run_underlying K.map, MapKept.run_getObj_map h, K.check, hf, K.zero, MapKept.run_setObj_map _ h, Result.andThen, setBlock, goInt]
    · have e : (l ++ [(k, z)]).set l.length (k, v) = l ++ [(k, v)] := by simp
      rw [e] at hp2
      exact hp2
  | some q =>
    obtain ⟨i, u⟩ := q
    rw [hs] at hf
    have he := ent_at hs c
    have hget : l[i]? = some (k, u) := by have := (seekL_lt hs).2.2; rwa [Nat.sub_zero] at this
    have hm : (entF c l 0).toArray.modify i (fun e => { e with key := c k }) = (entF c l 0).toArray := by
      have e0 : (entF c l 0).set i ⟨c k, u, i⟩ = entF c l 0 := by
        apply List.ext_getElem?
        intro j
        rw [List.getElem?_set]
        by_cases e1 : i = j
        · subst e1
          have hl := (List.getElem?_eq_some_iff.1 he).1
          rw [if_pos rfl, if_pos hl, he]
        · rw [if_neg e1]
      rw [modify_set he]
      exact congrArg List.toArray e0
    have hg := grown_setBlock h (.map (entF c l 0).toArray l.length)
    have h1 : PM (setBlock w B (.map (entF c l 0).toArray l.length)) B c l := hg.2
    obtain ⟨w2, hr2, hp2, hg2⟩ := h1.fill (mt := mt) hget v
    refine ⟨_, w2, i, ?_, h1, hg.1, hr2, hp2, grown_twice hg.1 hg2⟩
    have e2 : (setBlock w B (.map (entF c l 0).toArray l.length)) = setBlock w B (.map ((entF c l 0).toArray.modify i (fun e => { e with key := c k })) l.length) := by rw [hm]
    rw [e2]
    simp [Instr.mapEntry, run_underlying K.map, MapKept.run_getObj_map h, K.check, hf, he, K.stays, MapKept.run_setObj_map _ h, Result.andThen, setBlock, goInt]
end
theorem kind_claims : Kind 160 162 3 plV (.int .i64 0) := ⟨Try.underlying160, finds_place, check_place, intZero, fun k => by simp [Instr.sameBits]⟩
theorem kind_wishes : Kind 159 3 162 inV (plV (0, 0)) := ⟨Try.underlying159, finds_int, check_int, zero_place, fun k => by simp [Instr.sameBits]⟩
end Go.Proofs.Ytakmjfchhchngaa

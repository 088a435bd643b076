/- A tick under way: what one wishes. -/
import Derived.Laws.StructEq
import Derived.Test.YtmnddahkbmlibaaNsRecA
import Derived.Test.YtmnddahkbmlibaaNsMemA
import Derived.Test.YtmnddahkbmlibaaNsRefBA
import Derived.Test.YtmnddahkbmlibaaNsGiA
import Derived.Test.YtmnddahkbmlibaaNsInvZ
namespace Go.Proofs.Ytmnddahkbmlibaa
open Go.RowKit Go.Maps
end Go.Proofs.Ytmnddahkbmlibaa
namespace Go.Proofs.Ytmnddahkbmlibaa
open Go.RowKit Go.Maps
open Go.ChangeMaps (setBlock heap_setBlock_same heap_setBlock_other)
abbrev plV (q : Int × Int) : Value := .agg #[.int .i64 q.1, .int .i64 q.2]
theorem check_int (e : Bool) (z : Int) (w : World) : (Instr.checkKey e 10000 3 (.int .i64 z)).run Try.prog w = .ok () w := by kernel_rfl
section
variable {κ : Type}
def entF (c : κ → Value) (l : List (κ × Value)) (i : Nat) : List MapEntry :=
  match l with
  | [] => []
  | q :: r => ⟨c q.1, q.2, i⟩ :: entF c r (i + 1)
def PM (w : World) (B : Nat) (c : κ → Value) (l : List (κ × Value)) : Prop := w.heap[B]? = some (.map (entF c l 0).toArray l.length)
theorem entF_length (c : κ → Value) : ∀ (l : List (κ × Value)) (i : Nat), (entF c l i).length = l.length
  | [], _ => rfl
  | q :: r, i => by rw [entF, List.length_cons, List.length_cons, entF_length c r (i + 1)]
theorem entF_append (c : κ → Value) (l : List (κ × Value)) (q : κ × Value) : ∀ i, entF c (l ++ [q]) i = entF c l i ++ [⟨c q.1, q.2, i + l.length⟩] := by
  induction l with
  | nil => intro i; rfl
  | cons p r ih =>
    intro i
    rw [List.cons_append, entF, entF, ih (i + 1), List.cons_append, List.length_cons]
    congr 4
    omega
theorem entF_get (c : κ → Value) : ∀ (l : List (κ × Value)) (i j : Nat), (entF c l i)[j]? = (l[j]?).map fun q => ⟨c q.1, q.2, i + j⟩
  | [], _, _ => rfl
  | q :: r, i, 0 => rfl
  | q :: r, i, j + 1 => by
    rw [entF, List.getElem?_cons_succ, List.getElem?_cons_succ, entF_get c r (i + 1) j]
    have : i + 1 + j = i + (j + 1) := by omega
    rw [this]
theorem entF_set (c : κ → Value) (k : κ) (v : Value) (l : List (κ × Value)) (i j : Nat) : (entF c l i).set j ⟨c k, v, i + j⟩ = entF c (l.set j (k, v)) i := by
  apply List.ext_getElem?
  intro m
  rw [List.getElem?_set, entF_get, entF_get, entF_length, List.getElem?_set]
  by_cases e : j = m
  · subst e
    by_cases h : j < l.length <;> simp [h]
  · simp [e]
theorem entF_born (c : κ → Value) : ∀ (l : List (κ × Value)) (i j : Nat), j < l.length → (entF c l i).findIdx? (fun e => ((e.born : Nat) : Int) == ((i + j : Nat) : Int)) = some j
  | [], _, _, h => by simp at h
  | q :: r, i, 0, _ => by simp [entF, List.findIdx?_cons]
  | q :: r, i, j + 1, h => by
    rw [entF, List.findIdx?_cons]
    have h1 : ((((i : Nat) : Int)) == ((i + (j + 1) : Nat) : Int)) = false := by simp; omega
    simp only [h1]
    have e : i + (j + 1) = i + 1 + j := by omega
    rw [e, entF_born c r (i + 1) j (by simpa using h)]
    rfl
end
section
variable {κ : Type} [DecidableEq κ]
def seekL (k : κ) : List (κ × Value) → Nat → Option (Nat × Value)
  | [], _ => none
  | q :: r, i => if k = q.1 then some (i, q.2) else seekL k r (i + 1)
def getL (k : κ) (l : List (κ × Value)) : Option Value := (seekL k l 0).map (·.2)
def putL (k : κ) (v : Value) (l : List (κ × Value)) : List (κ × Value) :=
  match seekL k l 0 with
  | some (i, _) => l.set i (k, v)
  | none => l ++ [(k, v)]
theorem seekL_lt {k : κ} : ∀ {l : List (κ × Value)} {i j : Nat} {v : Value}, seekL k l i = some (j, v) → i ≤ j ∧ j < i + l.length ∧ l[j - i]? = some (k, v)
  | [], i, j, v, h => by simp [seekL] at h
  | q :: r, i, j, v, h => by
    unfold seekL at h
    split at h
    · rename_i e
      cases h
      refine ⟨Nat.le_refl _, by simp, ?_⟩
      rw [Nat.sub_self]
      simp [e]
    · obtain ⟨h1, h2, h3⟩ := seekL_lt h
      refine ⟨by omega, by simp only [List.length_cons]; omega, ?_⟩
      have e : j - i = (j - (i + 1)) + 1 := by omega
      rw [e, List.getElem?_cons_succ]
      exact h3
theorem seekL_shift (k : κ) (l : List (κ × Value)) (i n : Nat) : seekL k l (i + n) = (seekL k l i).map (fun q => (q.1 + n, q.2)) := by
  induction l generalizing i with
  | nil => rfl
  | cons q r ih =>
    unfold seekL
    by_cases h : k = q.1
    · simp [h]
    · rw [if_neg h, if_neg h, ← ih (i + 1)]
      congr 1
      omega
theorem seekL_append (k : κ) (l m : List (κ × Value)) (i : Nat) : seekL k (l ++ m) i = (seekL k l i).or (seekL k m (i + l.length)) := by
  induction l generalizing i with
  | nil => simp [seekL]
  | cons q r ih =>
    rw [List.cons_append, seekL, seekL]
    by_cases h : k = q.1
    · simp [h]
    · have e : i + 1 + r.length = i + (q :: r).length := by simp only [List.length_cons]; omega
      rw [if_neg h, if_neg h, ih (i + 1), e]
theorem getL_append (k : κ) (l m : List (κ × Value)) : getL k (l ++ m) = (getL k l).or (getL k m) := by
  unfold getL
  rw [seekL_append, Nat.zero_add]
  have := seekL_shift k m 0 l.length
  rw [Nat.zero_add] at this
  rw [this]
  cases seekL k l 0 <;> cases seekL k m 0 <;> rfl
theorem getL_nil (k : κ) : getL k ([] : List (κ × Value)) = none := rfl
theorem getL_cons (k : κ) (q : κ × Value) (r : List (κ × Value)) : getL k (q :: r) = if k = q.1 then some q.2 else getL k r := by
  unfold getL
  rw [seekL]
  split
  · rfl
  · have := seekL_shift k r 0 1
    rw [this]
    cases seekL k r 0 <;> rfl
theorem getL_set {k : κ} {v : Value} : ∀ {l : List (κ × Value)} {i j : Nat} {u : Value}, seekL k l i = some (j, u) → ∀ k', getL k' (l.set (j - i) (k, v)) = if k' = k then some v else getL k' l
  | [], i, j, u, h => by simp [seekL] at h
  | q :: r, i, j, u, h => by
    intro k'
    unfold seekL at h
    split at h
    · rename_i e
      cases h
      rw [Nat.sub_self, List.set_cons_zero, getL_cons, getL_cons, ← e]
      by_cases h' : k' = k <;> simp [h']
    · rename_i e
      obtain ⟨h1, _, _⟩ := seekL_lt h
      have hj : j - i = (j - (i + 1)) + 1 := by omega
      rw [hj, List.set_cons_succ, getL_cons, getL_cons, getL_set h k']
      by_cases h' : k' = q.1
      · simp [h']
        intro x
        exact absurd x.symm e
      · simp [h']
theorem getL_put (k k' : κ) (v : Value) (l : List (κ × Value)) : getL k' (putL k v l) = if k' = k then some v else getL k' l := by
  unfold putL
  cases h : seekL k l 0 with
  | none =>
    simp only
    rw [getL_append, getL_cons, getL_nil]
    by_cases e : k' = k
    · subst e
      have : getL k' l = none := by unfold getL; rw [h]; rfl
      simp [this]
    · simp [e]
  | some q =>
    obtain ⟨j, u⟩ := q
    exact getL_set h k'
def Finds (kt : TypeId) (c : κ → Value) : Prop := ∀ (k : κ) (l : List (κ × Value)) (w : World), (Instr.findKey kt (c k) (entF c l 0)).run Try.prog w = .ok (seekL k l 0) w
end
abbrev inV (z : Int) : Value := .int .i64 z
theorem findNow_int (z : Int) (k : IntKind) : ∀ (l : List (Int × Value)) (i : Nat), Instr.findNow (.int k) (inV z) (entF inV l i) i = some (seekL z l i)
  | [], _ => rfl
  | p :: r, i => by
    rw [entF, Instr.findNow, seekL]
    have : Instr.sameNow (.int k) (inV z) (inV p.1) = some (z == p.1) := by simp [Instr.sameNow]
    rw [this]
    by_cases h : z = p.1
    · simp [h]
    · have h2 : (z == p.1) = false := by simpa using h
      rw [h2, if_neg h]
      exact findNow_int z k r (i + 1)
theorem finds_int : Finds 3 inV := fun z l w => by
  unfold Instr.findKey
  simp only [Sem.run_bind, run_underlying Try.underlying3, Result.andThen_ok, findNow_int]
  rfl
section
variable {κ : Type} {c : κ → Value}
theorem PM.made (w : World) (c : κ → Value) : PM (w.alloc (.map #[] 0)) w.heap.size c [] := heap_alloc_new w _
theorem PM.other {w w' : World} {B : Nat} {l : List (κ × Value)} (h : PM w B c l) (hb : w'.heap[B]? = w.heap[B]?) : PM w' B c l := hb.trans h
theorem PM.lt {w : World} {B : Nat} {l : List (κ × Value)} (h : PM w B c l) : B < w.heap.size := (Array.getElem?_eq_some_iff.1 h).1
theorem PM.below {w w' : World} {B : Nat} {l : List (κ × Value)} (h : PM w B c l) (hb : Below w.heap.size w w') : PM w' B c l := h.other (hb.block B h.lt)
theorem PM.grown {w w' : World} {B : Nat} {l : List (κ × Value)} {r : Option Nat} (h : PM w B c l) (hg : w.grownBy w' r) (hne : some B ≠ r) : PM w' B c l := h.other (hg.block B h.lt hne)
theorem modify_set {es : List MapEntry} {i : Nat} {e : MapEntry} (h : es[i]? = some e) (f : MapEntry → MapEntry) : es.toArray.modify i f = (es.set i (f e)).toArray := by
  apply Array.ext'
  rw [Array.toList_modify, List.toList_toArray]
  apply List.ext_getElem?
  intro j
  rw [List.getElem?_modify, List.getElem?_set]
  by_cases e1 : i = j
  · subst e1
    have hl := (List.getElem?_eq_some_iff.1 h).1
    have he : es[i] = e := (List.getElem?_eq_some_iff.1 h).2
    simp [hl, he]
  · simp [e1]
theorem grown_setBlock {w : World} {B : Nat} {es : Array MapEntry} {n : Nat} (h : w.heap[B]? = some (.map es n)) (o : Obj) : w.grownBy (setBlock w B o) (some B) ∧ (setBlock w B o).heap[B]? = some o :=
  ⟨⟨rfl, rfl, rfl, by simp [setBlock], fun i _ hi => heap_setBlock_other h _ (fun e => hi (by rw [e]))⟩, heap_setBlock_same h _⟩
theorem PM.fill {mt : TypeId} {w : World} {B : Nat} {l : List (κ × Value)} (h : PM w B c l) {k : κ} {u : Value} {i : Nat} (hi : l[i]? = some (k, u)) (v : Value) :
    ∃ w', (Instr.entryStore mt (.map (some B)) (.int .i64 i) v).run Try.prog w = .ok () w' ∧ PM w' B c (l.set i (k, v)) ∧ w.grownBy w' (some B) := by
  have hlt := (List.getElem?_eq_some_iff.1 hi).1
  have hb : (entF c l 0).findIdx? (fun e => ((e.born : Nat) : Int) == ((i : Nat) : Int)) = some i := by
    have := entF_born c l 0 i hlt
    rwa [Nat.zero_add] at this
  have he : (entF c l 0)[i]? = some ⟨c k, u, i⟩ := by rw [entF_get, hi, Nat.zero_add]; rfl
  have hm : (entF c l 0).toArray.modify i (fun e => { e with val := v }) = (entF c (l.set i (k, v)) 0).toArray := by
    rw [modify_set he, ← entF_set, Nat.zero_add]
  have hg := grown_setBlock h (.map (entF c (l.set i (k, v)) 0).toArray l.length)
  refine ⟨_, ?_, ?_, hg.1⟩
  · rw [← hm]
    simp [Instr.entryStore, MapKept.run_getObj_map h, asInt, asIntOf, hb, MapKept.run_setObj_map _ h, Result.andThen, setBlock]
  · have := hg.2
    unfold PM
    rw [List.length_set]
    exact this
end
section
variable {κ : Type} [DecidableEq κ]
structure Kind (mt kt et : TypeId) (c : κ → Value) (z : Value) : Prop where
  map : Try.prog.underlying mt = some (.map kt et)
  finds : Finds kt c
  check : ∀ e k w, (Instr.checkKey e 10000 kt (c k)).run Try.prog w = .ok () w
  zero : ∀ w, (zeroValue et).run Try.prog w = .ok z w
  same : ∀ k, Instr.sameBits 10000 (c k) (c k) = true
variable {mt kt et : TypeId} {c : κ → Value} {z : Value}
theorem Kind.stays (K : Kind mt kt et c z) (k : κ) (w : World) : (Instr.keyThatStays (c k) (c k)).run Try.prog w = .ok (c k) w := by
  unfold Instr.keyThatStays
  rw [if_pos (K.same k)]
  rfl
theorem PM.look (K : Kind mt kt et c z) {w : World} {B : Nat} {l : List (κ × Value)} (h : PM w B c l) (k : κ) : (Instr.lookup mt (.map (some B)) (c k) false).run Try.prog w = .ok ((getL k l).getD z) w := by
  have hf := K.finds k l w
  unfold getL
  cases hs : seekL k l 0 with
  | none =>
    rw [hs] at hf
    simp [Instr.lookup, run_underlying K.map, MapKept.run_getObj_map h, K.check, hf, K.zero, Result.andThen]
  | some q =>
    rw [hs] at hf
    simp [Instr.lookup, run_underlying K.map, MapKept.run_getObj_map h, K.check, hf, Result.andThen]
theorem PM.lookOk (K : Kind mt kt et c z) {w : World} {B : Nat} {l : List (κ × Value)} (h : PM w B c l) (k : κ) : (Instr.lookup mt (.map (some B)) (c k) true).run Try.prog w = .ok (.tuple #[(getL k l).getD z, .bool (getL k l).isSome]) w := by
  have hf := K.finds k l w
  unfold getL
  cases hs : seekL k l 0 with
  | none =>
    rw [hs] at hf
    simp [Instr.lookup, run_underlying K.map, MapKept.run_getObj_map h, K.check, hf, K.zero, Result.andThen]
  | some q =>
    rw [hs] at hf
    simp [Instr.lookup, run_underlying K.map, MapKept.run_getObj_map h, K.check, hf, Result.andThen]
theorem ent_at {k : κ} {l : List (κ × Value)} {i : Nat} {v : Value} (h : seekL k l 0 = some (i, v)) (c : κ → Value) : (entF c l 0)[i]? = some ⟨c k, v, i⟩ := by
  obtain ⟨_, _, h3⟩ := seekL_lt h
  rw [Nat.sub_zero] at h3
  rw [entF_get, h3, Nat.zero_add]
  rfl
theorem PM.put (K : Kind mt kt et c z) {w : World} {B : Nat} {l : List (κ × Value)} (h : PM w B c l) (k : κ) (v : Value) :
    ∃ w', (Instr.mapUpdate mt (.map (some B)) (c k) v).run Try.prog w = .ok () w' ∧ PM w' B c (putL k v l) ∧ w.grownBy w' (some B) := by
  have hf := K.finds k l w
  unfold putL
  cases hs : seekL k l 0 with
  | none =>
    rw [hs] at hf
    have hm : (entF c l 0).toArray.push ⟨c k, v, l.length⟩ = (entF c (l ++ [(k, v)]) 0).toArray := by rw [entF_append, Nat.zero_add, List.push_toArray]
    have hg := grown_setBlock h (.map (entF c (l ++ [(k, v)]) 0).toArray (l.length + 1))
    refine ⟨_, ?_, ?_, hg.1⟩
    · rw [← hm]
      simp [Instr.mapUpdate, run_underlying K.map, MapKept.run_getObj_map h, K.check, hf, MapKept.run_setObj_map _ h, Result.andThen, setBlock]
    · have := hg.2
      simp only
      unfold PM
      rw [List.length_append]
      exact this
  | some q =>
    obtain ⟨i, u⟩ := q
    rw [hs] at hf
    have he := ent_at hs c
    have hm : (entF c l 0).toArray.modify i (fun e => { e with key := c k, val := v }) = (entF c (l.set i (k, v)) 0).toArray := by
      rw [modify_set he, ← entF_set, Nat.zero_add]
    have hg := grown_setBlock h (.map (entF c (l.set i (k, v)) 0).toArray l.length)
    refine ⟨_, ?_, ?_, hg.1⟩
    · rw [← hm]
      simp [Instr.mapUpdate, run_underlying K.map, MapKept.run_getObj_map h, K.check, hf, he, K.stays, MapKept.run_setObj_map _ h, Result.andThen, setBlock]
    · have := hg.2
      simp only
      unfold PM
      rw [List.length_set]
      exact this
end
end Go.Proofs.Ytmnddahkbmlibaa
namespace Go.Proofs.Ytmnddahkbmlibaa
open Go.RowKit Go.Maps
def mapK (f : List Int → List Int) (A : List (List Int)) (k : Nat) : List (List Int) := (A.take k).map f ++ A.drop k
theorem mapK_zero (f : List Int → List Int) (A : List (List Int)) : mapK f A 0 = A := by unfold mapK; simp
theorem mapK_all (f : List Int → List Int) (A : List (List Int)) {k : Nat} (hk : A.length ≤ k) : mapK f A k = A.map f := by
  unfold mapK
  rw [List.take_of_length_le hk, List.drop_of_length_le hk, List.append_nil]
theorem mapK_length (f : List Int → List Int) (A : List (List Int)) {k : Nat} (hk : k ≤ A.length) : (mapK f A k).length = A.length := by
  unfold mapK
  rw [List.length_append, List.length_map, List.length_take, List.length_drop]
  omega
theorem mapK_rec (f : List Int → List Int) (A : List (List Int)) {k : Nat} (hk : k ≤ A.length) {j : Nat} (hj : j < A.length) : rec (mapK f A k) j = if j < k then f (rec A j) else rec A j := by
  have hl : ((A.take k).map f).length = k := by rw [List.length_map, List.length_take]; omega
  rw [rec_at (by rw [mapK_length f A hk]; exact hj), rec_at hj]
  unfold mapK
  by_cases h : j < k
  · rw [if_pos h, List.getElem_append_left (by omega), List.getElem_map, List.getElem_take]
  · rw [if_neg h, List.getElem_append_right (by omega), List.getElem_drop]
    congr 1
    omega
theorem mapK_next (f : List Int → List Int) (A : List (List Int)) {k : Nat} (hk : k < A.length) : mapK f A (k + 1) = (mapK f A k).set k (f (rec A k)) := by
  have hl : ((A.take k).map f).length = k := by rw [List.length_map, List.length_take]; omega
  have e1 : A.take (k + 1) = A.take k ++ [A[k]] := by rw [List.take_add_one, List.getElem?_eq_getElem hk]; rfl
  have e2 : A.drop k = A[k] :: A.drop (k + 1) := (List.getElem_cons_drop hk).symm
  unfold mapK
  rw [e1, e2, List.map_append, List.append_assoc, List.set_append, if_neg (by omega), hl, Nat.sub_self, rec_at hk]
  rfl
theorem mapK_same (f : List Int → List Int) (A : List (List Int)) {k : Nat} (hk : k < A.length) (h : f (rec A k) = rec A k) : mapK f A (k + 1) = mapK f A k := by
  rw [mapK_next f A hk, h]
  have hr : rec (mapK f A k) k = rec A k := by rw [mapK_rec f A (by omega) hk, if_neg (by omega)]
  rw [← hr, rec_at (by rw [mapK_length f A (by omega)]; exact hk)]
  exact List.set_getElem_self _
theorem take_rec {A : List (List Int)} {k : Nat} (hk : k < A.length) : A.take (k + 1) = A.take k ++ [rec A k] := by
  rw [rec_at hk, List.take_add_one, List.getElem?_eq_getElem hk]
  rfl
def Uniq (es : List (List Int)) : Prop := ∀ i j, i < es.length → j < es.length → fld (rec es i) 0 = fld (rec es j) 0 → i = j
end Go.Proofs.Ytmnddahkbmlibaa
namespace Go.Proofs.Ytmnddahkbmlibaa
open Go.RowKit Go.Maps
theorem grown_cell {w w' : World} {B : Nat} (h : w.grownBy w' (some B)) {k : Nat} (hk : k < w.heap.size) (hne : k ≠ B) (j : Nat) : w'.cell? ⟨k, j, none⟩ = w.cell? ⟨k, j, none⟩ :=
  World.cell?_of_block (w := w) (a := ⟨k, j, none⟩) (h.block k hk (fun e => hne (by simpa using e)))
theorem grown_drew (w : World) (r : Option Nat) : w.grownBy w.drew r := ⟨rfl, rfl, rfl, Nat.le_refl _, fun _ _ _ => rfl⟩
theorem grown_to_below {w w' : World} {B b : Nat} (h : w.grownBy w' (some B)) (hb : b ≤ B) (hs : b ≤ w.heap.size) : Below b w w' := ⟨h.os, h.tape, h.output, h.size, fun k hk => h.block k (by omega) (fun e => by simp at e; omega)⟩
theorem pm_two {κ : Type} {cd : κ → Value} {w : World} {g M : Nat} {L : List (κ × Value)} {o1 o2 : Nat} {v1 v2 : Value} (h : PM w M cd L) (hg : g ≠ M) : PM ((w.setCell ⟨g, o1, none⟩ v1).setCell ⟨g, o2, none⟩ v2) M cd L :=
  h.other ((heap_setCell_other _ ⟨g, o2, none⟩ M v2 (fun e => hg e.symm)).trans (heap_setCell_other _ ⟨g, o1, none⟩ M v1 (fun e => hg e.symm)))
end Go.Proofs.Ytmnddahkbmlibaa
namespace Go.Proofs.Ytmnddahkbmlibaa
open Go.RowKit Go.Maps
theorem rec_map {f : List Int → List Int} {es : List (List Int)} {i : Nat} (hi : i < es.length) : rec (es.map f) i = f (rec es i) := by
  rw [rec_at (by simpa using hi), rec_at hi, List.getElem_map]
end Go.Proofs.Ytmnddahkbmlibaa
namespace Go.Proofs.Ytmnddahkbmlibaa
open Go.RowKit Go.Maps
theorem rec_mem {es : List (List Int)} {i : Nat} (h : i < es.length) : rec es i ∈ es := by
  rw [rec_at h]
  exact List.getElem_mem h
end Go.Proofs.Ytmnddahkbmlibaa
namespace Go.Proofs.Ytmnddahkbmlibaa
open Go.RowKit Go.Maps
theorem find_congr {α : Type} {p q : α → Bool} : ∀ (l : List α), (∀ x ∈ l, p x = q x) → l.find? p = l.find? q
  | [], _ => rfl
  | x :: l, h => by
    rw [List.find?_cons, List.find?_cons, h x (by simp), find_congr l (fun y hy => h y (by simp [hy]))]
theorem firstE_congr {n : Nat} {f g : Nat → Nat} (h : ∀ i, i < n → f i = g i) : firstE n f = firstE n g := by
  unfold firstE
  have e : (List.range n).find? (fun i => f i != 0) = (List.range n).find? (fun i => g i != 0) := by
    refine find_congr _ fun i hi => ?_
    rw [h i (by simpa using hi)]
  rw [e]
  cases hf : (List.range n).find? (fun i => g i != 0) with
  | none => rfl
  | some k =>
    have := List.mem_of_find?_eq_some hf
    exact h k (by simpa using this)
end Go.Proofs.Ytmnddahkbmlibaa

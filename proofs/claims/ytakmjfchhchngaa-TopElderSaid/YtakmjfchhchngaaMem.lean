/- Rows of records and of numbers that a call owns: their cells, and what a store does to them. -/
import Derived.Test.YtakmjfchhchngaaEl10
import Derived.Maps.AppendAt
import Derived.Laws.AppendOwnNone
import Derived.Laws.CopyOwn
import Derived.WalkSmall
namespace Go.Proofs.Ytakmjfchhchngaa
open Go.RowKit Go.Maps

/- A record with one field turned. -/
def updR (k : Nat) (u : List Int) (j : Nat) (v : Int) : List Int := (List.range k).map (fun q => if q = j then v else fld u q)
theorem fld_updR {k : Nat} (u : List Int) (j : Nat) (v : Int) {q : Nat} (h : q < k) : fld (updR k u j v) q = if q = j then v else fld u q := by
  simp [fld, updR, List.getD_eq_getElem?_getD, h]
theorem rec_set {rs : List (List Int)} {i : Nat} {x : List Int} {q : Nat} (h : q < rs.length) : rec (rs.set i x) q = if q = i then x else rec rs q := by
  by_cases e : q = i
  · subst e
    simp [rec, List.getD_eq_getElem?_getD, h]
  · have : ¬ i = q := fun h => e h.symm
    simp [rec, List.getD_eq_getElem?_getD, this, e]
theorem fld_range (k : Nat) (f : Nat → Int) {q : Nat} (h : q < k) : fld ((List.range k).map f) q = f q := by
  simp [fld, List.getD_eq_getElem?_getD, h]

/- The cells of a row of records. -/
def recL (k : Nat) (u : List Int) : List Value := (List.range k).map (fun j => Value.int .i64 (fld u j))
def flat (k : Nat) (es : List (List Int)) : List Value := es.flatMap (recL k)
theorem recL_length (k : Nat) (u : List Int) : (recL k u).length = k := by simp [recL]
theorem recL_get {k j : Nat} (u : List Int) (h : j < k) : (recL k u)[j]? = some (.int .i64 (fld u j)) := by simp [recL, h]
theorem flat_cons (k : Nat) (u : List Int) (es : List (List Int)) : flat k (u :: es) = recL k u ++ flat k es := rfl
theorem flat_append (k : Nat) (a b : List (List Int)) : flat k (a ++ b) = flat k a ++ flat k b := by simp [flat]
theorem flat_length (k : Nat) (es : List (List Int)) : (flat k es).length = es.length * k := by
  induction es with
  | nil => simp [flat]
  | cons u es ih => rw [flat_cons, List.length_append, ih, recL_length, List.length_cons, Nat.succ_mul]; omega
theorem flat_get {k j : Nat} (h : j < k) (es : List (List Int)) (i : Nat) : (flat k es)[i * k + j]? = if i < es.length then some (.int .i64 (fld (rec es i) j)) else none := by
  induction es generalizing i with
  | nil => simp [flat]
  | cons u es ih =>
    rw [flat_cons]
    cases i with
    | zero =>
      rw [Nat.zero_mul, Nat.zero_add, List.getElem?_append_left (by rw [recL_length]; exact h), recL_get u h]
      simp [rec]
    | succ i =>
      rw [List.getElem?_append_right (by rw [recL_length, Nat.succ_mul]; omega), recL_length]
      have e : (i + 1) * k + j - k = i * k + j := by rw [Nat.succ_mul]; omega
      rw [e, ih i]
      simp [rec]
theorem flat_one (es : List (List Int)) (k : Nat) : ∀ v ∈ flat k es, v.oneCell' = true := by
  intro v hv
  simp only [flat, recL, List.mem_flatMap, List.mem_map] at hv
  obtain ⟨u, _, j, _, rfl⟩ := hv
  rfl
theorem flat_set {k i j : Nat} (v : Int) (hj : j < k) (es : List (List Int)) (hi : i < es.length) : (flat k es).set (i * k + j) (.int .i64 v) = flat k (es.set i (updR k (rec es i) j v)) := by
  have hk : 0 < k := by omega
  apply List.ext_getElem?
  intro m
  have hm : m = (m / k) * k + m % k := by rw [Nat.mul_comm]; exact (Nat.div_add_mod m k).symm
  have hmk : m % k < k := Nat.mod_lt _ hk
  generalize m / k = q at hm
  generalize m % k = r at hm hmk
  subst hm
  rw [List.getElem?_set, flat_get hmk, flat_get hmk, List.length_set, flat_length]
  by_cases hq : q < es.length
  · rw [if_pos hq, if_pos hq, rec_set hq]
    by_cases e : i * k + j = q * k + r
    · have e1 : i = q := by
        rcases Nat.lt_trichotomy i q with h | h | h
        · have := Nat.mul_le_mul_right k (show i + 1 ≤ q from h)
          rw [Nat.succ_mul] at this
          omega
        · exact h
        · have := Nat.mul_le_mul_right k (show q + 1 ≤ i from h)
          rw [Nat.succ_mul] at this
          omega
      subst e1
      have e2 : j = r := by omega
      subst e2
      have hlt : i * k + j < es.length * k := by
        have := Nat.mul_le_mul_right k (show i + 1 ≤ es.length from hi)
        rw [Nat.succ_mul] at this
        omega
      rw [if_pos rfl, if_pos hlt, if_pos rfl, fld_updR _ _ _ hj, if_pos rfl]
    · rw [if_neg e]
      by_cases e1 : q = i
      · subst e1
        have e2 : ¬ r = j := fun h => e (by rw [h])
        rw [if_pos rfl, fld_updR _ _ _ hmk, if_neg e2]
      · rw [if_neg e1]
  · rw [if_neg hq, if_neg hq]
    by_cases e : i * k + j = q * k + r
    · have := Nat.mul_le_mul_right k (show i + 1 ≤ q by omega)
      rw [Nat.succ_mul] at this
      omega
    · rw [if_neg e]

/- A row of the elder game's records that is owned; one of numbers. -/
def Row (base : Nat) (w : World) (v : Value) (es : List (List Int)) : Prop := w.ownsRow base 86 10 v es.length (flat 10 es)
def NRow (base : Nat) (w : World) (v : Value) (zs : List Int) : Prop := w.ownsRow base 3 1 v zs.length (zs.map (Value.int .i64))

theorem Row.open {base : Nat} {w : World} {v : Value} {es : List (List Int)} (h : Row base w v es) : ∃ ea c, v = .slice ea es.length c ∧ es.length ≤ c ∧ Recs w ea 10 es ∧ (0 < es.length → ∃ g, ea = some ⟨g, 0, none⟩ ∧ base ≤ g ∧ g < w.heap.size) := by
  have h' := h
  rcases h.2 with ⟨rfl, h0⟩ | ⟨g, cap, cur, rfl, hb, hg, hn, hm, hs, ht⟩
  · refine ⟨none, 0, by rw [h0], by omega, Or.inl (List.eq_nil_of_length_eq_zero h0), fun h => by omega⟩
  · refine ⟨some ⟨g, 0, none⟩, cap, rfl, hn, Or.inr ⟨g, 0, rfl, fun i hi j hj => ?_⟩, fun _ => ⟨g, rfl, hb, (Array.getElem?_eq_some_iff.1 hg).1⟩⟩
    have hlt : i * 10 + j < es.length * 10 := by omega
    rw [Nat.zero_add, World.ownsRow.cellAt h' _ hlt, flat_get hj, if_pos hi]
theorem NRow.open {base : Nat} {w : World} {v : Value} {zs : List Int} (h : NRow base w v zs) : ∃ ea c, v = .slice ea zs.length c ∧ zs.length ≤ c ∧ Nums w ea zs ∧ (0 < zs.length → ∃ g, ea = some ⟨g, 0, none⟩ ∧ base ≤ g ∧ g < w.heap.size) := by
  have h' := h
  rcases h.2 with ⟨rfl, h0⟩ | ⟨g, cap, cur, rfl, hb, hg, hn, hm, hs, ht⟩
  · refine ⟨none, 0, by rw [h0], by omega, Or.inl (List.eq_nil_of_length_eq_zero h0), fun h => by omega⟩
  · refine ⟨some ⟨g, 0, none⟩, cap, rfl, hn, Or.inr ⟨g, 0, rfl, fun i hi => ?_⟩, fun _ => ⟨g, rfl, hb, (Array.getElem?_eq_some_iff.1 hg).1⟩⟩
    rw [Nat.zero_add, World.ownsRow.cellAt h' _ (by omega), List.getElem?_map]
    simp [fld, List.getD_eq_getElem?_getD, hi]

theorem Row.put {base : Nat} {w : World} {g n c : Nat} {es : List (List Int)} (h : Row base w (.slice (some ⟨g, 0, none⟩) n c) es) {i j : Nat} (hi : i < es.length) (hj : j < 10) (v : Int) :
    Row base (w.setCell ⟨g, i * 10 + j, none⟩ (.int .i64 v)) (.slice (some ⟨g, 0, none⟩) n c) (es.set i (updR 10 (rec es i) j v)) := by
  have hn : n = es.length := by
    rcases h.2 with ⟨h', _⟩ | ⟨g', cap', cur, h', _⟩
    · cases h'
    · cases h'; rfl
  subst hn
  unfold Row
  rw [List.length_set, ← flat_set v hj es hi]
  exact (World.ownsRow.stored h (i * 10 + j) (.int .i64 v)).1

theorem row_below {w w' : World} {base : Nat} {e : TypeId} {size : Nat} {v : Value} {n : Nat} {xs : List Value} (h : w.ownsRow base e size v n xs) (hb : Below w.heap.size w w') : w'.ownsRow base e size v n xs := by
  refine ⟨h.1, ?_⟩
  rcases h.2 with hn | ⟨g, cap, cur, rfl, hbg, hgg, rest⟩
  · exact .inl hn
  · exact .inr ⟨g, cap, cur, rfl, hbg, (hb.block g (Array.getElem?_eq_some_iff.1 hgg).1).trans hgg, rest⟩
theorem row_other {w w' : World} {base : Nat} {e : TypeId} {size : Nat} {v : Value} {n : Nat} {xs : List Value} (h : w.ownsRow base e size v n xs) (hb : ∀ g, v.ownBlock = some g → w'.heap[g]? = w.heap[g]?) : w'.ownsRow base e size v n xs := by
  refine ⟨h.1, ?_⟩
  rcases h.2 with hn | ⟨g, cap, cur, rfl, hbg, hgg, rest⟩
  · exact .inl hn
  · exact .inr ⟨g, cap, cur, rfl, hbg, (hb g rfl).trans hgg, rest⟩
end Go.Proofs.Ytakmjfchhchngaa

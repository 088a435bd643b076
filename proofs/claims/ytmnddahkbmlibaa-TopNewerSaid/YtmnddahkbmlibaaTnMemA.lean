/- Rows of records and of numbers that a call owns: their cells, and what a store does to them. -/
import Derived.Maps.AppendAt
import Derived.Laws.AppendOwnNone
import Derived.Laws.CopyOwn
import Derived.WalkSmall
import Derived.Deep.RegionLaw
import Derived.Test.YtmnddahkbmlibaaTnRulA
import Derived.Test.YtmnddahkbmlibaaTnRecA
import Derived.Test.YtmnddahkbmlibaaTnElB
namespace Go.Proofs.Ytmnddahkbmlibaa
open Go.RowKit Go.Maps
def updR (k : Nat) (u : List Int) (j : Nat) (v : Int) : List Int := (List.range k).map (fun q => if q = j then v else fld u q)
theorem fld_updR {k : Nat} (u : List Int) (j : Nat) (v : Int) {q : Nat} (h : q < k) : fld (updR k u j v) q = if q = j then v else fld u q := by
  simp [fld, updR, List.getD_eq_getElem?_getD, h]
theorem rec_set {rs : List (List Int)} {i : Nat} {x : List Int} {q : Nat} (h : q < rs.length) : rec (rs.set i x) q = if q = i then x else rec rs q := by
  by_cases e : q = i
  · subst e
    simp [rec, List.getD_eq_getElem?_getD, h]
  · have : ¬ i = q := fun h => e h.symm
    simp [rec, List.getD_eq_getElem?_getD, this, e]
def recL (k : Nat) (u : List Int) : List Value := (List.range k).map (fun j => Value.int .i64 (fld u j))
def flat (k : Nat) (es : List (List Int)) : List Value := es.flatMap (recL k)
theorem recL_length (k : Nat) (u : List Int) : (recL k u).length = k := by simp [recL]
theorem recL_get {k j : Nat} (u : List Int) (h : j < k) : (recL k u)[j]? = some (.int .i64 (fld u j)) := by simp [recL, h]
theorem flat_cons (k : Nat) (u : List Int) (es : List (List Int)) : flat k (u :: es) = recL k u ++ flat k es := rfl
theorem flat_append (k : Nat) (a b : List (List Int)) : flat k (a ++ b) = flat k a ++ flat k b := by simp [flat]
theorem flat_length (k : Nat) (es : List (List Int)) : (flat k es).length = es.length * k := by
  induction es with
  | nil => simp [flat]
  | cons u es ih => rw [flat_cons, List.length_append, ih, recL_length, List.length_cons, Nat.succ_mul]; omega
theorem flat_get {k j : Nat} (h : j < k) (es : List (List Int)) (i : Nat) : (flat k es)[i * k + j]? = if i < es.length then some (.int .i64 (fld (rec es i) j)) else none := by
  induction es generalizing i with
  | nil => simp [flat]
  | cons u es ih =>
    rw [flat_cons]
    cases i with
    | zero =>
      rw [Nat.zero_mul, Nat.zero_add, List.getElem?_append_left (by rw [recL_length]; exact h), recL_get u h]
      simp [rec]
    | succ i =>
      rw [List.getElem?_append_right (by rw [recL_length, Nat.succ_mul]; omega), recL_length]
      have e : (i + 1) * k + j - k = i * k + j := by rw [Nat.succ_mul]; omega
      rw [e, ih i]
      simp [rec]
theorem flat_one (es : List (List Int)) (k : Nat) : ∀ v ∈ flat k es, v.oneCell' = true := by
  intro v hv
  simp only [flat, recL, List.mem_flatMap, List.mem_map] at hv
  obtain ⟨u, _, j, _, rfl⟩ := hv
  rfl
theorem flat_set {k i j : Nat} (v : Int) (hj : j < k) (es : List (List Int)) (hi : i < es.length) : (flat k es).set (i * k + j) (.int .i64 v) = flat k (es.set i (updR k (rec es i) j v)) := by
  have hk : 0 < k := by omega
  apply List.ext_getElem?
  intro m
  have hm : m = (m / k) * k + m % k := by rw [Nat.mul_comm]; exact (Nat.div_add_mod m k).symm
  have hmk : m % k < k := Nat.mod_lt _ hk
  generalize m / k = q at hm
  generalize m % k = r at hm hmk
  subst hm
  rw [List.getElem?_set, flat_get hmk, flat_get hmk, List.length_set, flat_length]
  by_cases hq : q < es.length
  · rw [if_pos hq, if_pos hq, rec_set hq]
    by_cases e : i * k + j = q * k + r
    · have e1 : i = q := by
        rcases Nat.lt_trichotomy i q with h | h | h
        · have := Nat.mul_le_mul_right k (show i + 1 ≤ q from h)
          rw [Nat.succ_mul] at this
          omega
        · exact h
        · have := Nat.mul_le_mul_right k (show q + 1 ≤ i from h)
          rw [Nat.succ_mul] at this
          omega
      subst e1
      have e2 : j = r := by omega
      subst e2
      have hlt : i * k + j < es.length * k := by
        have := Nat.mul_le_mul_right k (show i + 1 ≤ es.length from hi)
        rw [Nat.succ_mul] at this
        omega
      rw [if_pos rfl, if_pos hlt, if_pos rfl, fld_updR _ _ _ hj, if_pos rfl]
    · rw [if_neg e]
      by_cases e1 : q = i
      · subst e1
        have e2 : ¬ r = j := fun h => e (by rw [h])
        rw [if_pos rfl, fld_updR _ _ _ hmk, if_neg e2]
      · rw [if_neg e1]
  · rw [if_neg hq, if_neg hq]
    by_cases e : i * k + j = q * k + r
    · have := Nat.mul_le_mul_right k (show i + 1 ≤ q by omega)
      rw [Nat.succ_mul] at this
      omega
    · rw [if_neg e]
theorem row_below {w w' : World} {base : Nat} {e : TypeId} {size : Nat} {v : Value} {n : Nat} {xs : List Value} (h : w.ownsRow base e size v n xs) (hb : Below w.heap.size w w') : w'.ownsRow base e size v n xs := by
  refine ⟨h.1, ?_⟩
  rcases h.2 with hn | ⟨g, cap, cur, rfl, hbg, hgg, rest⟩
  · exact .inl hn
  · exact .inr ⟨g, cap, cur, rfl, hbg, (hb.block g (Array.getElem?_eq_some_iff.1 hgg).1).trans hgg, rest⟩
theorem row_other {w w' : World} {base : Nat} {e : TypeId} {size : Nat} {v : Value} {n : Nat} {xs : List Value} (h : w.ownsRow base e size v n xs) (hb : ∀ g, v.ownBlock = some g → w'.heap[g]? = w.heap[g]?) : w'.ownsRow base e size v n xs := by
  refine ⟨h.1, ?_⟩
  rcases h.2 with hn | ⟨g, cap, cur, rfl, hbg, hgg, rest⟩
  · exact .inl hn
  · exact .inr ⟨g, cap, cur, rfl, hbg, (hb g rfl).trans hgg, rest⟩
end Go.Proofs.Ytmnddahkbmlibaa
namespace Go.Proofs.Ytmnddahkbmlibaa
open Go.RowKit Go.Maps
structure St where
  t : Int
  g0 : Int
  g1 : Int
  nx : Int
  free : List Int
  es : List (List Int)
  born : List Int
theorem row_ne {w : World} {base : Nat} {e : TypeId} {size : Nat} {v : Value} {n : Nat} {xs : List Value} (h : w.ownsRow base e size v n xs) {p : Nat} {c : Array Value} {t : TypeId} {fz : Nat × Nat} (hp : w.heap[p]? = some (.cells c t fz)) (ht : t ≠ e) : v.ownBlock ≠ some p := by
  intro hv
  rcases h.2 with ⟨rfl, _⟩ | ⟨g, cap, cur, rfl, hbg, hgg, rest⟩
  · cases hv
  · simp only [Value.ownBlock, Option.some.injEq] at hv
    subst hv
    rw [hgg] at hp
    simp only [Option.some.injEq, Obj.cells.injEq] at hp
    exact ht hp.2.1.symm
theorem row_ne_map {w : World} {base : Nat} {e : TypeId} {size : Nat} {v : Value} {n : Nat} {xs : List Value} (h : w.ownsRow base e size v n xs) {p : Nat} {es : Array MapEntry} {c : Nat} (hp : w.heap[p]? = some (.map es c)) : v.ownBlock ≠ some p := by
  intro hv
  rcases h.2 with ⟨rfl, _⟩ | ⟨g, cap, cur, rfl, hbg, hgg, rest⟩
  · cases hv
  · simp only [Value.ownBlock, Option.some.injEq] at hv
    subst hv
    rw [hgg] at hp
    cases hp
section
variable {base : Nat} {w : World} {p : Nat} {ev fv bv : Value} {B : Nat} {s : St} {was : Int → Int}
end
end Go.Proofs.Ytmnddahkbmlibaa
namespace Go.Proofs.Ytmnddahkbmlibaa
open Go.RowKit Go.Maps
theorem info_int : (Try.prog.info? 3).map (fun i => (i.zero, i.size, i.bytes)) = some (some (.int .i64 0), 1, 8) := by kernel_rfl
theorem add_off (b o j : Nat) : (⟨b, o, none⟩ : Addr).add j = ⟨b, o + j, none⟩ := by unfold Addr.add; split <;> simp_all
end Go.Proofs.Ytmnddahkbmlibaa
namespace Go.Proofs.Ytmnddahkbmlibaa
open Go.RowKit Go.Maps
theorem grown_below {w w' : World} (h : w.grownBy w' none) : Below w.heap.size w w' := ⟨h.os, h.tape, h.output, h.size, fun k hk => h.block k hk (by simp)⟩
theorem row_set {w : World} {base : Nat} {e : TypeId} {size : Nat} {v : Value} {n : Nat} {xs : List Value} (h : w.ownsRow base e size v n xs) {b : Nat} (hne : v.ownBlock ≠ some b) (j : Nat) (u : Value) : (w.setCell ⟨b, j, none⟩ u).ownsRow base e size v n xs :=
  row_other h fun g hg => heap_setCell_other w ⟨b, j, none⟩ g u (fun e => hne (by rw [hg, e]))
end Go.Proofs.Ytmnddahkbmlibaa
namespace Go.Proofs.Ytmnddahkbmlibaa
open Go.RowKit Go.Maps
theorem own_mono {w : World} {base base' : Nat} {e : TypeId} {size : Nat} {v : Value} {n : Nat} {xs : List Value} (h : w.ownsRow base e size v n xs) (hb : base' ≤ base) : w.ownsRow base' e size v n xs := by
  refine ⟨h.1, ?_⟩
  rcases h.2 with hn | ⟨g, cap, cur, rfl, hbg, rest⟩
  · exact .inl hn
  · exact .inr ⟨g, cap, cur, rfl, by omega, rest⟩
theorem below_grown {B base : Nat} {a w w' : World} (h : Below base a w) (hg : w.grownBy w' (some B)) (hb : base ≤ B) (hs : base ≤ w.heap.size) : Below base a w' := h.grown hg hs (fun k hk => by cases hk; exact hb)
theorem drew_grown {w w' : World} {r : Option Nat} (h : w.drew.grownBy w' r) : w.grownBy w' r := ⟨h.os, h.tape, h.output, h.size, h.block⟩
end Go.Proofs.Ytmnddahkbmlibaa
namespace Go.Proofs.Ytmnddahkbmlibaa
open Go.RowKit Go.Maps
def turnW (w : World) (g m : Nat) (does : Int) : World :=
  (((w.setCell ⟨g, m + 6, none⟩ (.int .i64 does)).setCell ⟨g, m + 7, none⟩ (.int .i64 0)).setCell ⟨g, m + 8, none⟩ (.int .i64 0)).setCell ⟨g, m + 9, none⟩ (.int .i64 0)
theorem set_set {es : List (List Int)} {i : Nat} {a b : List Int} : (es.set i a).set i b = es.set i b := by simp
theorem rec_set_same {es : List (List Int)} {i : Nat} {a : List Int} (h : i < es.length) : rec (es.set i a) i = a := by rw [rec_set h, if_pos rfl]
section
variable {base : Nat} {w : World} {p : Nat} {fv bv : Value} {B : Nat} {s : St} {was : Int → Int}
end
theorem below_turnW {base : Nat} {a w : World} {g m : Nat} {does : Int} (h : Below base a w) (hg : base ≤ g) : Below base a (turnW w g m does) :=
  (((h.setCell (p := ⟨g, m + 6, none⟩) hg _).setCell (p := ⟨g, m + 7, none⟩) hg _).setCell (p := ⟨g, m + 8, none⟩) hg _).setCell (p := ⟨g, m + 9, none⟩) hg _
end Go.Proofs.Ytmnddahkbmlibaa
namespace Go.Proofs.Ytmnddahkbmlibaa
open Go.RowKit Go.Maps
def roomE (es : List (List Int)) (u : List Int) (x y : Int) : Bool := Pl.onB x y && (decide (Pl.farZ (fld u 3) (fld u 4) x y ≤ 1) && decide (idxZ (isAt x y) es < 0))
section
variable (base p : Nat) (s : St) (was : Int → Int) (w : World)
end
end Go.Proofs.Ytmnddahkbmlibaa
namespace Go.Proofs.Ytmnddahkbmlibaa
open Go.RowKit Go.Maps
def RowU (base : Nat) (w : World) (v : Value) (us : List (List Int)) : Prop := w.ownsRow base 110 11 v us.length (flat 11 us)
theorem RowU.open {base : Nat} {w : World} {v : Value} {us : List (List Int)} (h : RowU base w v us) : ∃ ea c, v = .slice ea us.length c ∧ us.length ≤ c ∧ Recs w ea 11 us ∧ (0 < us.length → ∃ g, ea = some ⟨g, 0, none⟩ ∧ base ≤ g ∧ g < w.heap.size) := by
  have h' := h
  rcases h.2 with ⟨rfl, h0⟩ | ⟨g, cap, cur, rfl, hb, hg, hn, hm, hs, ht⟩
  · refine ⟨none, 0, by rw [h0], by omega, Or.inl (List.eq_nil_of_length_eq_zero h0), fun h => by omega⟩
  · refine ⟨some ⟨g, 0, none⟩, cap, rfl, hn, Or.inr ⟨g, 0, rfl, fun i hi j hj => ?_⟩, fun _ => ⟨g, rfl, hb, (Array.getElem?_eq_some_iff.1 hg).1⟩⟩
    have hlt : i * 11 + j < us.length * 11 := by omega
    rw [Nat.zero_add, World.ownsRow.cellAt h' _ hlt, flat_get hj, if_pos hi]
theorem RowU.put {base : Nat} {w : World} {g n c : Nat} {us : List (List Int)} (h : RowU base w (.slice (some ⟨g, 0, none⟩) n c) us) {i j : Nat} (hi : i < us.length) (hj : j < 11) (v : Int) :
    RowU base (w.setCell ⟨g, i * 11 + j, none⟩ (.int .i64 v)) (.slice (some ⟨g, 0, none⟩) n c) (us.set i (updR 11 (rec us i) j v)) := by
  have hn : n = us.length := by
    rcases h.2 with ⟨h', _⟩ | ⟨g', cap', cur, h', _⟩
    · cases h'
    · cases h'; rfl
  subst hn
  unfold RowU
  rw [List.length_set, ← flat_set v hj us hi]
  exact (World.ownsRow.stored h (i * 11 + j) (.int .i64 v)).1
theorem RowU.cells {base : Nat} {w : World} {g n c : Nat} {us : List (List Int)} (h : RowU base w (.slice (some ⟨g, 0, none⟩) n c) us) {i : Nat} (hi : i < us.length) :
    (∀ j, j < 11 → w.cell? ⟨g, i * 11 + j, none⟩ = some (.int .i64 (fld (rec us i) j))) ∧ (∀ j, w.frozen? ⟨g, j, none⟩ = false) := by
  have hn : n = us.length := by
    rcases h.2 with ⟨h', _⟩ | ⟨g', cap', cur, h', _⟩
    · cases h'
    · cases h'; rfl
  subst hn
  refine ⟨fun j hj => ?_, fun j => World.ownsRow.frozenAt h j⟩
  have hlt : i * 11 + j < us.length * 11 := by omega
  rw [World.ownsRow.cellAt h _ hlt, flat_get hj, if_pos hi]
section
variable {base : Nat} {w : World} {p : Nat} {uv fv bv : Value} {nw : Bool} {s : St}
end
def tellR (u : List Int) (d x y t : Int) : List Int := updR 11 (updR 11 (updR 11 (updR 11 u 6 d) 7 x) 8 y) 9 t
def tellW (w : World) (g m : Nat) (d x y t : Int) : World :=
  (((w.setCell ⟨g, m + 6, none⟩ (.int .i64 d)).setCell ⟨g, m + 7, none⟩ (.int .i64 x)).setCell ⟨g, m + 8, none⟩ (.int .i64 y)).setCell ⟨g, m + 9, none⟩ (.int .i64 t)
end Go.Proofs.Ytmnddahkbmlibaa
namespace Go.Proofs.Ytmnddahkbmlibaa
open Go.RowKit
def ruleL (nw : Bool) (k : Int) : List Int := if nw then [Pl.nCost k, Pl.nHP k, Pl.nSpeed k, Pl.nHarm k, Pl.nRange k, Pl.nLoad k] else [Pl.eCost k, Pl.eHP k, Pl.eSpeed k, Pl.eHarm k, Pl.eRange k, Pl.eLoad k]
def hasB (nw : Bool) (k : Int) : Bool := if nw then Pl.nHas k else Pl.eHas k
end Go.Proofs.Ytmnddahkbmlibaa

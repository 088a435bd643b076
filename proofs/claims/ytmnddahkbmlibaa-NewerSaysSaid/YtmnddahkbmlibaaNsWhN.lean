/- Package newer: who is who, and who was there, as plain functions. -/
import Derived.Test.YtmnddahkbmlibaaNsNwI
import Derived.Test.YtmnddahkbmlibaaNsInO
import Derived.Test.YtmnddahkbmlibaaNsEqO
import Derived.Test.YtmnddahkbmlibaaNsSw
import Derived.Test.YtmnddahkbmlibaaNsNwK
namespace Go.Proofs.Ytmnddahkbmlibaa
open Go.RowKit Go.Maps
theorem whoK_none {es : List (List Int)} {id : Int} : ∀ {k : Nat}, (∀ i, i < k → fld (rec es i) 0 ≠ id) → whoK es k id = none
  | 0, _ => rfl
  | k + 1, h => by
    rw [whoK, if_neg (fun e => h k (by omega) e.symm)]
    exact whoK_none fun i hi => h i (by omega)
theorem whoK_some {es : List (List Int)} (hu : Uniq es) {id : Int} {i : Nat} (hid : fld (rec es i) 0 = id) : ∀ {k : Nat}, k ≤ es.length → i < k → whoK es k id = some (inV i)
  | 0, _, h => absurd h (Nat.not_lt_zero _)
  | k + 1, hk, h => by
    rw [whoK]
    by_cases e : id = fld (rec es k) 0
    · have : i = k := hu i k (by omega) (by omega) (hid.trans e)
      rw [if_pos e, this]
    · rw [if_neg e]
      have hne : i ≠ k := fun x => e (by rw [← hid, x])
      exact whoK_some hu hid (by omega) (by omega)
theorem whoK_congr {a b : List (List Int)} : ∀ {k : Nat}, (∀ i, i < k → fld (rec a i) 0 = fld (rec b i) 0) → whoK a k = whoK b k
  | 0, _ => rfl
  | k + 1, h => by
    funext id
    rw [whoK, whoK, h k (by omega), whoK_congr fun i hi => h i (by omega)]
theorem who_look {es : List (List Int)} (hu : Uniq es) (id : Int) : whoK es es.length id = if 0 ≤ idxZ (isId id) es then some (inV (idxZ (isId id) es).toNat) else none := by
  by_cases h : 0 ≤ idxZ (isId id) es
  · rw [if_pos h]
    obtain ⟨hk, hp⟩ := idxZ_at h
    exact whoK_some hu (eq_of_beq hp) (Nat.le_refl _) hk
  · rw [if_neg h]
    refine whoK_none fun i hi e => ?_
    have := idxZ_neg_iff.1 (show idxZ (isId id) es < 0 by omega) i hi
    unfold isId at this
    rw [e] at this
    simp at this
theorem who_append (es : List (List Int)) (u : List Int) : whoK (es ++ [u]) (es ++ [u]).length = putF (whoK es es.length) (fld u 0) (inV es.length) := by
  have hl : (es ++ [u]).length = es.length + 1 := by simp
  have hr : rec (es ++ [u]) es.length = u := by rw [rec_at (by omega)]; simp
  rw [hl, whoK_succ, hr]
  congr 1
  exact whoK_congr fun i hi => by rw [rec_at (show i < (es ++ [u]).length by omega), rec_at hi, List.getElem_append_left hi]
theorem who_set {es : List (List Int)} {i : Nat} {u : List Int} (h : fld u 0 = fld (rec es i) 0) : whoK (es.set i u) (es.set i u).length = whoK es es.length := by
  rw [List.length_set]
  refine whoK_congr fun k hk => ?_
  rw [rec_set hk]
  split
  next e => rw [h, e]
  · rfl
theorem who_map {es : List (List Int)} {f : List Int → List Int} (h : ∀ u, fld (f u) 0 = fld u 0) : whoK (es.map f) (es.map f).length = whoK es es.length := by
  rw [List.length_map]
  exact whoK_congr fun k hk => by rw [rec_map hk, h]
structure OldN (es : List (List Int)) (o : Nat) (old : List Int) : Prop where
  le : o ≤ es.length
  is : ∀ k, k < es.length → isB old (fld (rec es k) 0) = decide (k < o)
theorem isB_ids {es : List (List Int)} {id : Int} : isB (idsE es) id = true ↔ ∃ k, k < es.length ∧ fld (rec es k) 0 = id := by
  unfold isB
  rw [List.any_eq_true]
  constructor
  · rintro ⟨x, hx, he⟩
    obtain ⟨k, hk, hx'⟩ := mem_ids.1 hx
    exact ⟨k, hk, by rw [hx']; exact eq_of_beq he⟩
  · rintro ⟨k, hk, he⟩
    exact ⟨id, mem_ids.2 ⟨k, hk, he⟩, by simp⟩
theorem oldN_begin (es : List (List Int)) : OldN es es.length (idsE es) :=
  ⟨Nat.le_refl _, fun k hk => by rw [decide_eq_true hk]; exact isB_ids.2 ⟨k, hk, rfl⟩⟩
theorem oldN_congr {a b : List (List Int)} {o : Nat} {old : List Int} (h : OldN a o old) (hl : b.length = a.length) (hf : ∀ k, k < a.length → fld (rec b k) 0 = fld (rec a k) 0) : OldN b o old :=
  ⟨by rw [hl]; exact h.le, fun k hk => by rw [hl] at hk; rw [hf k hk]; exact h.is k hk⟩
theorem oldN_map {a : List (List Int)} {o : Nat} {old : List Int} (h : OldN a o old) {f : List Int → List Int} (hf : ∀ u, fld (f u) 0 = fld u 0) : OldN (a.map f) o old :=
  oldN_congr h (by simp) fun k hk => by rw [rec_map hk, hf]
theorem oldN_set {a : List (List Int)} {o : Nat} {old : List Int} (h : OldN a o old) {i : Nat} {u : List Int} (hf : fld u 0 = fld (rec a i) 0) : OldN (a.set i u) o old :=
  oldN_congr h (by simp) fun k hk => by
    rw [rec_set hk]
    split
    next e => rw [hf, e]
    · rfl
theorem oldN_append {a : List (List Int)} {o : Nat} {old : List Int} (h : OldN a o old) {u : List Int} (hf : isB old (fld u 0) = false) : OldN (a ++ [u]) o old := by
  have hle := h.le
  refine ⟨by simp; omega, fun k hk => ?_⟩
  have hl : (a ++ [u]).length = a.length + 1 := by simp
  by_cases e : k < a.length
  · rw [rec_at hk, List.getElem_append_left e, ← rec_at e]
    exact h.is k e
  · have hke : k = a.length := by omega
    subst hke
    have hr : rec (a ++ [u]) a.length = u := by rw [rec_at (by omega)]; simp
    rw [hr, hf, decide_eq_false (by omega)]
def OldLt (old : List Int) (nx : Int) : Prop := ∀ x, isB old x = true → x < nx
theorem oldLt_begin {s : St} (h : InvN s) : OldLt (idsE s.es) s.nx := fun x hx => by
  obtain ⟨k, hk, rfl⟩ := isB_ids.1 hx
  exact h.lt _ (rec_mem hk)
theorem tell_id (u : List Int) (d x y t : Int) : fld (tellR u d x y t) 0 = fld u 0 := (tellR_fld u d x y t).1 0 (by omega)
theorem oldN_ord {s : St} (h : InvN s) {o : Nat} {old : List Int} (ho : OldN s.es o old) (hl : OldLt old s.nx) (q : List Int) : OldN (ordN s q).es o old ∧ OldLt old (ordN s q).nx := by
  unfold ordN
  split
  · exact ⟨ho, hl⟩
  · split
    · generalize (whoZ (fld q 2) s.es).toNat = i
      unfold doN
      split
      · unfold goesR
        split
        · exact ⟨oldN_set ho (tell_id _ _ _ _ _), hl⟩
        · exact ⟨ho, hl⟩
      · split
        · split
          · unfold aimsR
            split
            · exact ⟨oldN_set ho (tell_id _ _ _ _ _), hl⟩
            · exact ⟨ho, hl⟩
          · exact ⟨ho, hl⟩
        · split
          · rw [buildN s h.fr h.lt]
            split
            · exact ⟨ho, hl⟩
            · split
              · exact ⟨ho, hl⟩
              · split
                · exact ⟨ho, hl⟩
                · rw [payN]
                  refine ⟨oldN_append ho ?_, fun x hx => by have := hl x hx; show x < s.nx + 1; omega⟩
                  show isB old s.nx = false
                  rw [← Bool.not_eq_true]
                  intro hx
                  have := hl _ hx
                  omega
          · split
            · exact ⟨oldN_set ho (tell_id _ _ _ _ _), hl⟩
            · exact ⟨ho, hl⟩
    · exact ⟨ho, hl⟩
theorem oldN_ords : ∀ (l : List (List Int)) {s : St} {o : Nat} {old : List Int}, InvN s → OldN s.es o old → OldLt old s.nx → OldN (ordsN s l).es o old ∧ OldLt old (ordsN s l).nx := by
  intro l
  induction l with
  | nil => exact fun _ ho hl => ⟨ho, hl⟩
  | cons q l ih => exact fun h ho hl => ih (invN_ord h q) (oldN_ord h ho hl q).1 (oldN_ord h ho hl q).2
theorem countP_old {es : List (List Int)} {o : Nat} {old : List Int} (h : OldN es o old) (p : List Int → Bool) : (es.take o).countP p = es.countP (fun u => isB old (fld u 0) && p u) := by
  have e : es.countP (fun u => isB old (fld u 0) && p u) = (es.take o).countP (fun u => isB old (fld u 0) && p u) + (es.drop o).countP (fun u => isB old (fld u 0) && p u) := by
    rw [← List.countP_append, List.take_append_drop]
  have h2 : (es.drop o).countP (fun u => isB old (fld u 0) && p u) = 0 := by
    rw [List.countP_eq_zero]
    intro x hx
    obtain ⟨j, hj, rfl⟩ := List.mem_iff_getElem.1 hx
    rw [List.length_drop] at hj
    have := h.is (o + j) (by omega)
    rw [decide_eq_false (by omega), rec_at (by omega)] at this
    rw [List.getElem_drop, this]
    simp
  have h1 : (es.take o).countP (fun u => isB old (fld u 0) && p u) = (es.take o).countP p := by
    refine List.countP_congr fun x hx => ?_
    obtain ⟨j, hj, rfl⟩ := List.mem_iff_getElem.1 hx
    have hle := h.le
    rw [List.length_take] at hj
    have := h.is j (by omega)
    rw [decide_eq_true (by omega), rec_at (by omega)] at this
    rw [List.getElem_take, this]
    simp
  rw [e, h1, h2]
  rfl
theorem mapK_old {es : List (List Int)} {o : Nat} {old : List Int} (h : OldN es o old) {f g : List Int → List Int} (hfg : ∀ u, g u = if isB old (fld u 0) = true then f u else u) : mapK f es o = es.map g := by
  have hle := h.le
  refine ext_rec (by rw [mapK_length _ _ hle, List.length_map]) fun j hj => ?_
  rw [mapK_length _ _ hle] at hj
  rw [mapK_rec _ _ hle hj, rec_map hj, hfg, h.is j hj]
  by_cases e : j < o
  · rw [if_pos e, decide_eq_true e, if_pos rfl]
  · rw [if_neg e, decide_eq_false e, if_neg (by decide)]
theorem arrive_old {es : List (List Int)} {o : Nat} {old : List Int} (h : OldN es o old) : mapK arriveP es o = arriveR old es := by
  unfold arriveR
  refine mapK_old h fun u => ?_
  unfold arriveF arriveP
  cases isB old (fld u 0) with
  | false => simp
  | true => simp [and_assoc]
end Go.Proofs.Ytmnddahkbmlibaa
namespace Go.Proofs.Ytmnddahkbmlibaa
open Go.RowKit Go.Maps
structure GrewN (s0 s : St) (n : Nat) : Prop where
  t : s.t = s0.t
  lo : s0.nx ≤ s.nx
  hi : s.nx ≤ s0.nx + n
  gold : s.g0 + s.g1 ≤ s0.g0 + s0.g1
  each : ∀ u ∈ s.es, (∃ o ∈ s0.es, ∀ j, (j < 6 ∨ j = 10) → fld u j = fld o j) ∨ (s0.nx ≤ fld u 0 ∧ fld u 10 = s0.t)
  mine : (∀ u ∈ s0.es, fld u 2 ≠ 4) → ∀ u ∈ s.es, fld u 2 ≠ 4
theorem grewN_refl (s : St) : GrewN s s 0 := ⟨rfl, Int.le_refl _, by omega, Int.le_refl _, fun u hu => Or.inl ⟨u, hu, fun _ _ => rfl⟩, fun h => h⟩
theorem grewN_more {s0 s : St} {n : Nat} (h : GrewN s0 s n) : GrewN s0 s (n + 1) := ⟨h.t, h.lo, by have := h.hi; omega, h.gold, h.each, h.mine⟩
theorem grewN_set {s0 s : St} {n : Nat} (h : GrewN s0 s n) {i : Nat} (hi : i < s.es.length) (d x y t : Int) : GrewN s0 { s with es := s.es.set i (tellR (rec s.es i) d x y t) } (n + 1) := by
  have hf := (tellR_fld (rec s.es i) d x y t).1
  have hm := rec_mem hi
  refine ⟨h.t, h.lo, by have := h.hi; show s.nx ≤ _; omega, h.gold, fun v hv => ?_, fun h0 v hv => ?_⟩
  · rcases List.mem_or_eq_of_mem_set hv with hv | rfl
    · exact h.each v hv
    · rcases h.each _ hm with ⟨o, ho, he⟩ | ⟨h1, h2⟩
      · exact Or.inl ⟨o, ho, fun j hj => (hf j hj).trans (he j hj)⟩
      · exact Or.inr ⟨by rw [hf 0 (by omega)]; exact h1, by rw [hf 10 (by omega)]; exact h2⟩
  · rcases List.mem_or_eq_of_mem_set hv with hv | rfl
    · exact h.mine h0 v hv
    · rw [hf 2 (by omega)]
      exact h.mine h0 _ hm
theorem grewN_ord {s0 s : St} (hI : InvN s) {n : Nat} (h : GrewN s0 s n) (q : List Int) : GrewN s0 (ordN s q) (n + 1) := by
  unfold ordN
  split
  · exact grewN_more h
  next hz =>
    have hz' : 0 ≤ idxZ (isId (fld q 2)) s.es := by
      have : ¬ idxZ (isId (fld q 2)) s.es < 0 := hz
      omega
    have hi : (whoZ (fld q 2) s.es).toNat < s.es.length := (idxZ_at hz').1
    split
    · generalize (whoZ (fld q 2) s.es).toNat = i at hi
      unfold doN
      split
      · unfold goesR
        split
        · exact grewN_set h hi _ _ _ _
        · exact grewN_more h
      · split
        · split
          · unfold aimsR
            split
            · exact grewN_set h hi _ _ _ _
            · exact grewN_more h
          · exact grewN_more h
        · split
          · rw [buildN s hI.fr hI.lt]
            split
            · exact grewN_more h
            next hso =>
              split
              · exact grewN_more h
              · split
                · exact grewN_more h
                · have hk4 : fld q 3 ≠ 4 := by
                    intro e
                    apply hso
                    unfold soonR
                    rw [e]
                    simp
                  have hc := costN_bd (fld q 3)
                  have hlo := h.lo
                  have hhi := h.hi
                  have hgo := h.gold
                  rw [payN]
                  refine ⟨h.t, by show s0.nx ≤ s.nx + 1; omega, by show s.nx + 1 ≤ s0.nx + ((n + 1 : Nat) : Int); omega, ?_, fun v hv => ?_, fun h0 v hv => ?_⟩
                  · show (if fld (rec s.es i) 1 = 0 then s.g0 - Pl.nCost (fld q 3) else s.g0) + (if fld (rec s.es i) 1 = 0 then s.g1 else s.g1 - Pl.nCost (fld q 3)) ≤ _
                    split <;> omega
                  · rcases List.mem_append.1 hv with hv | hv
                    · exact h.each v hv
                    · rw [List.mem_singleton.1 hv]
                      exact Or.inr ⟨h.lo, h.t⟩
                  · rcases List.mem_append.1 hv with hv | hv
                    · exact h.mine h0 v hv
                    · rw [List.mem_singleton.1 hv]
                      exact hk4
          · split
            · exact grewN_set h hi _ _ _ _
            · exact grewN_more h
    · exact grewN_more h
theorem grewN_ords {s0 : St} : ∀ (l : List (List Int)) {s : St} {n : Nat}, InvN s → GrewN s0 s n → GrewN s0 (ordsN s l) (n + l.length) := by
  intro l
  induction l with
  | nil => exact fun _ h => h
  | cons q l ih =>
    intro s n hI h
    have := ih (invN_ord hI q) (grewN_ord hI h q)
    have e : n + (q :: l).length = n + 1 + l.length := by simp; omega
    rw [e]
    exact this
def stepN (s : St) (l : List (List Int)) : St := endO (ordsN s l) (idsE s.es)
theorem invN_step {s : St} (h : InvN s) (ht : s.t < 60) (l : List (List Int)) : InvN (stepN s l) := by
  have hg := grewN_ords (s0 := s) l h (grewN_refl s)
  exact invN_end (invN_ords l h) (by rw [hg.t]; exact ht) _
end Go.Proofs.Ytmnddahkbmlibaa
namespace Go.Proofs.Ytmnddahkbmlibaa
open Go.RowKit Go.Maps
abbrev zeroNV : Value := newerV 0 0 0 0 (.slice none 0 0)
structure InW (w : World) (s : St) (ua : Option Addr) (uc : Nat) : Prop where
  un : ua = none → uc = 0
  cap : s.es.length ≤ uc
  rows : Recs w ua 11 s.es
  fr : s.free = []
  born : s.born = []
theorem InW.below {w w' : World} {s : St} {ua : Option Addr} {uc : Nat} (h : InW w s ua uc) (hb : Below w.heap.size w w') : InW w' s ua uc := ⟨h.un, h.cap, h.rows.below hb, h.fr, h.born⟩
theorem boxes5 {w W : World} {s : St} {uv : Value} (hW : (w.alloc (.cells (newerC s.t s.g0 s.g1 s.nx uv) 90)).alloc (.cells (newerC 0 0 0 0 (.slice none 0 0)) 90) = W) :
    Below w.heap.size w W ∧ W.heap.size = w.heap.size + 2 ∧ W.heap[w.heap.size]? = some (.cells (newerC s.t s.g0 s.g1 s.nx uv) 90) ∧ W.heap[w.heap.size + 1]? = some (.cells (newerC 0 0 0 0 (.slice none 0 0)) 90) := by
  refine ⟨?_, ?_, ?_, ?_⟩
  · rw [← hW]; exact ((Below.refl _ w).alloc (Nat.le_refl _) _).alloc (by simp [go_sem]) _
  · rw [← hW]; simp [go_sem]
  · rw [← hW, heap_alloc_old _ _ (by simp [go_sem])]
    exact heap_alloc_new w _
  · have e : w.heap.size + 1 = (w.alloc (.cells (newerC s.t s.g0 s.g1 s.nx uv) 90)).heap.size := by simp [go_sem]
    rw [← hW, e]
    exact heap_alloc_new _ _
def setFive (w : World) (b : Nat) (a0 a1 a2 a3 a4 : Value) : World := ((((w.setCell ⟨b, 0, none⟩ a0).setCell ⟨b, 1, none⟩ a1).setCell ⟨b, 2, none⟩ a2).setCell ⟨b, 3, none⟩ a3).setCell ⟨b, 4, none⟩ a4
theorem below_five {B b : Nat} {a w : World} {a0 a1 a2 a3 a4 : Value} (h : Below B a w) (hb : B ≤ b) : Below B a (setFive w b a0 a1 a2 a3 a4) :=
  ((((h.setCell (p := ⟨b, 0, none⟩) hb _).setCell (p := ⟨b, 1, none⟩) hb _).setCell (p := ⟨b, 2, none⟩) hb _).setCell (p := ⟨b, 3, none⟩) hb _).setCell (p := ⟨b, 4, none⟩) hb _
theorem heap_five {w : World} {b k : Nat} {a0 a1 a2 a3 a4 : Value} (h : k ≠ b) : (setFive w b a0 a1 a2 a3 a4).heap[k]? = w.heap[k]? := by
  unfold setFive
  rw [heap_setCell_other _ ⟨b, 4, none⟩ k _ (fun e => h e), heap_setCell_other _ ⟨b, 3, none⟩ k _ (fun e => h e), heap_setCell_other _ ⟨b, 2, none⟩ k _ (fun e => h e), heap_setCell_other _ ⟨b, 1, none⟩ k _ (fun e => h e), heap_setCell_other _ ⟨b, 0, none⟩ k _ (fun e => h e)]
theorem row_five {w : World} {base base' b : Nat} {e : TypeId} {size : Nat} {v : Value} {n : Nat} {xs : List Value} {a0 a1 a2 a3 a4 : Value} (h : w.ownsRow base e size v n xs) (hb : b < base) (hbb : base' ≤ base) : (setFive w b a0 a1 a2 a3 a4).ownsRow base' e size v n xs :=
  own_mono (row_other (w' := setFive w b a0 a1 a2 a3 a4) h (fun g hg => heap_five (fun x => by have := (World.ownsRow.lt h g hg).1; omega))) hbb
theorem ords_next (s : St) {l : List (List Int)} {k : Nat} (hk : k < l.length) : ordsN s (l.take (k + 1)) = ordN (ordsN s (l.take k)) (rec l k) := by
  unfold ordsN
  rw [take_rec hk, List.foldl_append]
  rfl
abbrev ordC (q : List Int) : Array Value := #[.int .i64 (fld q 0), .int .i64 (fld q 1), .int .i64 (fld q 2), .int .i64 (fld q 3), .int .i64 (fld q 4), .int .i64 (fld q 5)]
abbrev ordV (q : List Int) : Value := .agg (ordC q)
end Go.Proofs.Ytmnddahkbmlibaa

/- Rows of records and of numbers that a call owns: their cells, and what a store does to them. -/
import Derived.Maps.AppendAt
import Derived.Laws.AppendOwnNone
import Derived.Laws.CopyOwn
import Derived.WalkSmall
import Derived.Deep.RegionLaw
import Derived.Test.YtgiieepfhohmhabTRulA
import Derived.Test.YtgiieepfhohmhabTRecA
import Derived.Test.YtgiieepfhohmhabTElB
namespace Go.Proofs.Ytgiieepfhohmhab
open Go.RowKit Go.Maps
def updR (k : Nat) (u : List Int) (j : Nat) (v : Int) : List Int := (List.range k).map (fun q => if q = j then v else fld u q)
theorem fld_updR {k : Nat} (u : List Int) (j : Nat) (v : Int) {q : Nat} (h : q < k) : fld (updR k u j v) q = if q = j then v else fld u q := by
  simp [fld, updR, List.getD_eq_getElem?_getD, h]
theorem rec_set {rs : List (List Int)} {i : Nat} {x : List Int} {q : Nat} (h : q < rs.length) : rec (rs.set i x) q = if q = i then x else rec rs q := by
  by_cases e : q = i
  · subst e
    simp [rec, List.getD_eq_getElem?_getD, h]
  · have : ¬ i = q := fun h => e h.symm
    simp [rec, List.getD_eq_getElem?_getD, this, e]
def recL (k : Nat) (u : List Int) : List Value := (List.range k).map (fun j => Value.int .i64 (fld u j))
def flat (k : Nat) (es : List (List Int)) : List Value := es.flatMap (recL k)
theorem recL_length (k : Nat) (u : List Int) : (recL k u).length = k := by simp [recL]
theorem recL_get {k j : Nat} (u : List Int) (h : j < k) : (recL k u)[j]? = some (.int .i64 (fld u j)) := by simp [recL, h]
theorem flat_cons (k : Nat) (u : List Int) (es : List (List Int)) : flat k (u :: es) = recL k u ++ flat k es := rfl
theorem flat_append (k : Nat) (a b : List (List Int)) : flat k (a ++ b) = flat k a ++ flat k b := by simp [flat]
theorem flat_length (k : Nat) (es : List (List Int)) : (flat k es).length = es.length * k := by
  induction es with
  | nil => simp [flat]
  | cons u es ih => rw [flat_cons, List.length_append, ih, recL_length, List.length_cons, Nat.succ_mul]; omega
theorem flat_get {k j : Nat} (h : j < k) (es : List (List Int)) (i : Nat) : (flat k es)[i * k + j]? = if i < es.length then some (.int .i64 (fld (rec es i) j)) else none := by
  induction es generalizing i with
  | nil => simp [flat]
  | cons u es ih =>
    rw [flat_cons]
    cases i with
    | zero =>
      rw [Nat.zero_mul, Nat.zero_add, List.getElem?_append_left (by rw [recL_length]; exact h), recL_get u h]
      simp [rec]
    | succ i =>
      rw [List.getElem?_append_right (by rw [recL_length, Nat.succ_mul]; omega), recL_length]
      have e : (i + 1) * k + j - k = i * k + j := by rw [Nat.succ_mul]; omega
      rw [e, ih i]
      simp [rec]
theorem flat_one (es : List (List Int)) (k : Nat) : ∀ v ∈ flat k es, v.oneCell' = true := by
  intro v hv
  simp only [flat, recL, List.mem_flatMap, List.mem_map] at hv
  obtain ⟨u, _, j, _, rfl⟩ := hv
  rfl
theorem flat_set {k i j : Nat} (v : Int) (hj : j < k) (es : List (List Int)) (hi : i < es.length) : (flat k es).set (i * k + j) (.int .i64 v) = flat k (es.set i (updR k (rec es i) j v)) := by
  have hk : 0 < k := by omega
  apply List.ext_getElem?
  intro m
  have hm : m = (m / k) * k + m % k := by rw [Nat.mul_comm]; exact (Nat.div_add_mod m k).symm
  have hmk : m % k < k := Nat.mod_lt _ hk
  generalize m / k = q at hm
  generalize m % k = r at hm hmk
  subst hm
  rw [List.getElem?_set, flat_get hmk, flat_get hmk, List.length_set, flat_length]
  by_cases hq : q < es.length
  · rw [if_pos hq, if_pos hq, rec_set hq]
    by_cases e : i * k + j = q * k + r
    · have e1 : i = q := by
        rcases Nat.lt_trichotomy i q with h | h | h
        · have := Nat.mul_le_mul_right k (show i + 1 ≤ q from h)
          rw [Nat.succ_mul] at this
          omega
        · exact h
        · have := Nat.mul_le_mul_right k (show q + 1 ≤ i from h)
          rw [Nat.succ_mul] at this
          omega
      subst e1
      have e2 : j = r := by omega
      subst e2
      have hlt : i * k + j < es.length * k := by
        have := Nat.mul_le_mul_right k (show i + 1 ≤ es.length from hi)
        rw [Nat.succ_mul] at this
        omega
      rw [if_pos rfl, if_pos hlt, if_pos rfl, fld_updR _ _ _ hj, if_pos rfl]
    · rw [if_neg e]
      by_cases e1 : q = i
      · subst e1
        have e2 : ¬ r = j := fun h => e (by rw [h])
        rw [if_pos rfl, fld_updR _ _ _ hmk, if_neg e2]
      · rw [if_neg e1]
  · rw [if_neg hq, if_neg hq]
    by_cases e : i * k + j = q * k + r
    · have := Nat.mul_le_mul_right k (show i + 1 ≤ q by omega)
      rw [Nat.succ_mul] at this
      omega
    · rw [if_neg e]
def Row (base : Nat) (w : World) (v : Value) (es : List (List Int)) : Prop := w.ownsRow base 63 10 v es.length (flat 10 es)
def NRow (base : Nat) (w : World) (v : Value) (zs : List Int) : Prop := w.ownsRow base 3 1 v zs.length (zs.map (Value.int .i64))
theorem Row.open {base : Nat} {w : World} {v : Value} {es : List (List Int)} (h : Row base w v es) : ∃ ea c, v = .slice ea es.length c ∧ es.length ≤ c ∧ Recs w ea 10 es ∧ (0 < es.length → ∃ g, ea = some ⟨g, 0, none⟩ ∧ base ≤ g ∧ g < w.heap.size) := by
  have h' := h
  rcases h.2 with ⟨rfl, h0⟩ | ⟨g, cap, cur, rfl, hb, hg, hn, hm, hs, ht⟩
  · refine ⟨none, 0, by rw [h0], by omega, Or.inl (List.eq_nil_of_length_eq_zero h0), fun h => by omega⟩
  · refine ⟨some ⟨g, 0, none⟩, cap, rfl, hn, Or.inr ⟨g, 0, rfl, fun i hi j hj => ?_⟩, fun _ => ⟨g, rfl, hb, (Array.getElem?_eq_some_iff.1 hg).1⟩⟩
    have hlt : i * 10 + j < es.length * 10 := by omega
    rw [Nat.zero_add, World.ownsRow.cellAt h' _ hlt, flat_get hj, if_pos hi]
theorem NRow.open {base : Nat} {w : World} {v : Value} {zs : List Int} (h : NRow base w v zs) : ∃ ea c, v = .slice ea zs.length c ∧ zs.length ≤ c ∧ Nums w ea zs ∧ (0 < zs.length → ∃ g, ea = some ⟨g, 0, none⟩ ∧ base ≤ g ∧ g < w.heap.size) := by
  have h' := h
  rcases h.2 with ⟨rfl, h0⟩ | ⟨g, cap, cur, rfl, hb, hg, hn, hm, hs, ht⟩
  · refine ⟨none, 0, by rw [h0], by omega, Or.inl (List.eq_nil_of_length_eq_zero h0), fun h => by omega⟩
  · refine ⟨some ⟨g, 0, none⟩, cap, rfl, hn, Or.inr ⟨g, 0, rfl, fun i hi => ?_⟩, fun _ => ⟨g, rfl, hb, (Array.getElem?_eq_some_iff.1 hg).1⟩⟩
    rw [Nat.zero_add, World.ownsRow.cellAt h' _ (by omega), List.getElem?_map]
    simp [fld, List.getD_eq_getElem?_getD, hi]
theorem Row.put {base : Nat} {w : World} {g n c : Nat} {es : List (List Int)} (h : Row base w (.slice (some ⟨g, 0, none⟩) n c) es) {i j : Nat} (hi : i < es.length) (hj : j < 10) (v : Int) :
    Row base (w.setCell ⟨g, i * 10 + j, none⟩ (.int .i64 v)) (.slice (some ⟨g, 0, none⟩) n c) (es.set i (updR 10 (rec es i) j v)) := by
  have hn : n = es.length := by
    rcases h.2 with ⟨h', _⟩ | ⟨g', cap', cur, h', _⟩
    · cases h'
    · cases h'; rfl
  subst hn
  unfold Row
  rw [List.length_set, ← flat_set v hj es hi]
  exact (World.ownsRow.stored h (i * 10 + j) (.int .i64 v)).1
theorem row_below {w w' : World} {base : Nat} {e : TypeId} {size : Nat} {v : Value} {n : Nat} {xs : List Value} (h : w.ownsRow base e size v n xs) (hb : Below w.heap.size w w') : w'.ownsRow base e size v n xs := by
  refine ⟨h.1, ?_⟩
  rcases h.2 with hn | ⟨g, cap, cur, rfl, hbg, hgg, rest⟩
  · exact .inl hn
  · exact .inr ⟨g, cap, cur, rfl, hbg, (hb.block g (Array.getElem?_eq_some_iff.1 hgg).1).trans hgg, rest⟩
theorem row_other {w w' : World} {base : Nat} {e : TypeId} {size : Nat} {v : Value} {n : Nat} {xs : List Value} (h : w.ownsRow base e size v n xs) (hb : ∀ g, v.ownBlock = some g → w'.heap[g]? = w.heap[g]?) : w'.ownsRow base e size v n xs := by
  refine ⟨h.1, ?_⟩
  rcases h.2 with hn | ⟨g, cap, cur, rfl, hbg, hgg, rest⟩
  · exact .inl hn
  · exact .inr ⟨g, cap, cur, rfl, hbg, (hb g rfl).trans hgg, rest⟩
end Go.Proofs.Ytgiieepfhohmhab
namespace Go.Proofs.Ytgiieepfhohmhab
open Go.RowKit Go.Maps
structure St where
  t : Int
  g0 : Int
  g1 : Int
  nx : Int
  free : List Int
  es : List (List Int)
  born : List Int
abbrev gameC (s : St) (fv ev bv : Value) (B : Nat) : Array Value := #[.int .i64 s.t, .int .i64 s.g0, .int .i64 s.g1, .int .i64 s.nx, fv, ev, .map (some B), bv]
structure Gm (base : Nat) (w : World) (p : Nat) (ev fv bv : Value) (B : Nat) (s : St) (was : Int → Int) : Prop where
  hp : w.heap[p]? = some (.cells (gameC s fv ev bv B) 87)
  er : Row base w ev s.es
  fr : NRow base w fv s.free
  br : NRow base w bv s.born
  ct : Counts w B 1000 was
  bp : base ≤ p
  bB : base ≤ B
  fb : fv.ownBlock = none ∨ fv.ownBlock ≠ bv.ownBlock
theorem Counts.other {w w' : World} {B n : Nat} {f : Int → Int} (h : Counts w B n f) (hb : w'.heap[B]? = w.heap[B]?) : Counts w' B n f := by
  obtain ⟨D, h1, h2, h3⟩ := h
  obtain ⟨es, clock, hh, F, hs, hD⟩ := h1
  exact ⟨D, ⟨es, clock, hb.trans hh, F, hs, hD⟩, h2, h3⟩
theorem Counts.isMap {w : World} {B n : Nat} {f : Int → Int} (h : Counts w B n f) : ∃ es clock, w.heap[B]? = some (.map es clock) := by
  obtain ⟨D, h1, h2, h3⟩ := h
  obtain ⟨es, clock, hh, F, hs, hD⟩ := h1
  exact ⟨es, clock, hh⟩
theorem row_ne {w : World} {base : Nat} {e : TypeId} {size : Nat} {v : Value} {n : Nat} {xs : List Value} (h : w.ownsRow base e size v n xs) {p : Nat} {c : Array Value} {t : TypeId} {fz : Nat × Nat} (hp : w.heap[p]? = some (.cells c t fz)) (ht : t ≠ e) : v.ownBlock ≠ some p := by
  intro hv
  rcases h.2 with ⟨rfl, _⟩ | ⟨g, cap, cur, rfl, hbg, hgg, rest⟩
  · cases hv
  · simp only [Value.ownBlock, Option.some.injEq] at hv
    subst hv
    rw [hgg] at hp
    simp only [Option.some.injEq, Obj.cells.injEq] at hp
    exact ht hp.2.1.symm
theorem row_ne_map {w : World} {base : Nat} {e : TypeId} {size : Nat} {v : Value} {n : Nat} {xs : List Value} (h : w.ownsRow base e size v n xs) {p : Nat} {es : Array MapEntry} {c : Nat} (hp : w.heap[p]? = some (.map es c)) : v.ownBlock ≠ some p := by
  intro hv
  rcases h.2 with ⟨rfl, _⟩ | ⟨g, cap, cur, rfl, hbg, hgg, rest⟩
  · cases hv
  · simp only [Value.ownBlock, Option.some.injEq] at hv
    subst hv
    rw [hgg] at hp
    cases hp
section
variable {base : Nat} {w : World} {p : Nat} {ev fv bv : Value} {B : Nat} {s : St} {was : Int → Int}
theorem Gm.lt (h : Gm base w p ev fv bv B s was) : p < w.heap.size := (Array.getElem?_eq_some_iff.1 h.hp).1
theorem Gm.pB (h : Gm base w p ev fv bv B s was) : p ≠ B := by
  intro e
  obtain ⟨es, c, hm⟩ := h.ct.isMap
  rw [← e, h.hp] at hm
  cases hm
theorem Gm.below {w' : World} (h : Gm base w p ev fv bv B s was) (hb : Below w.heap.size w w') : Gm base w' p ev fv bv B s was :=
  ⟨(hb.block p h.lt).trans h.hp, row_below h.er hb, row_below h.fr hb, row_below h.br hb, h.ct.below hb, h.bp, h.bB, h.fb⟩
theorem Gm.cell (h : Gm base w p ev fv bv B s was) (j : Nat) : w.cell? ⟨p, j, none⟩ = (gameC s fv ev bv B)[j]? := cell_of_row w p j _ _ _ h.hp
theorem Gm.frozen (h : Gm base w p ev fv bv B s was) (j : Nat) : w.frozen? ⟨p, j, none⟩ = false := frozen_of_row w p j _ _ h.hp
theorem Gm.eight (h : Gm base w p ev fv bv B s was) : w.cell? ⟨p, 0, none⟩ = some (.int .i64 s.t) ∧ w.cell? ⟨p, 1, none⟩ = some (.int .i64 s.g0) ∧ w.cell? ⟨p, 2, none⟩ = some (.int .i64 s.g1) ∧ w.cell? ⟨p, 3, none⟩ = some (.int .i64 s.nx) ∧ w.cell? ⟨p, 4, none⟩ = some fv ∧ w.cell? ⟨p, 5, none⟩ = some ev ∧ w.cell? ⟨p, 6, none⟩ = some (.map (some B)) ∧ w.cell? ⟨p, 7, none⟩ = some bv :=
  ⟨h.cell 0, h.cell 1, h.cell 2, h.cell 3, h.cell 4, h.cell 5, h.cell 6, h.cell 7⟩
theorem Gm.pset (h : Gm base w p ev fv bv B s was) (j : Nat) (v : Value) {s' : St} {ev' fv' bv' : Value} (harr : (gameC s fv ev bv B).setIfInBounds j v = gameC s' fv' ev' bv' B)
    (er : Row base w ev' s'.es) (fr : NRow base w fv' s'.free) (br : NRow base w bv' s'.born) (fb : fv'.ownBlock = none ∨ fv'.ownBlock ≠ bv'.ownBlock) : Gm base (w.setCell ⟨p, j, none⟩ v) p ev' fv' bv' B s' was := by
  have ho : ∀ k, k ≠ p → (w.setCell ⟨p, j, none⟩ v).heap[k]? = w.heap[k]? := fun k hk => heap_setCell_other w ⟨p, j, none⟩ k v (fun e => hk e)
  refine ⟨?_, ?_, ?_, ?_, ?_, h.bp, h.bB, fb⟩
  · rw [← harr]
    exact heap_setCell_same w p j _ _ v h.hp
  · exact row_other er fun g hg => ho g fun e => row_ne er h.hp (by decide) (by rw [hg, e])
  · exact row_other fr fun g hg => ho g fun e => row_ne fr h.hp (by decide) (by rw [hg, e])
  · exact row_other br fun g hg => ho g fun e => row_ne br h.hp (by decide) (by rw [hg, e])
  · exact h.ct.other (ho B (fun e => h.pB e.symm))
theorem gm_rput {g n c : Nat} (h : Gm base w p (.slice (some ⟨g, 0, none⟩) n c) fv bv B s was) {i j : Nat} (hi : i < s.es.length) (hj : j < 10) (v : Int) :
    Gm base (w.setCell ⟨g, i * 10 + j, none⟩ (.int .i64 v)) p (.slice (some ⟨g, 0, none⟩) n c) fv bv B { s with es := s.es.set i (updR 10 (rec s.es i) j v) } was := by
  have hgb : (Value.slice (some ⟨g, 0, none⟩) n c).ownBlock = some g := rfl
  have ho : ∀ k, k ≠ g → (w.setCell ⟨g, i * 10 + j, none⟩ (.int .i64 v)).heap[k]? = w.heap[k]? := fun k hk => heap_setCell_other w ⟨g, i * 10 + j, none⟩ k _ (fun e => hk e)
  have hgp : p ≠ g := fun e => row_ne h.er h.hp (by decide) (by rw [hgb, e])
  have hrow : ∃ cur, w.heap[g]? = some (.cells cur 63 (0, 0)) := by
    rcases h.er.2 with ⟨h', _⟩ | ⟨g', cap', cur, h', _, hg, _⟩
    · cases h'
    · cases h'; exact ⟨cur, hg⟩
  obtain ⟨cur, hcur⟩ := hrow
  obtain ⟨me, mc, hm⟩ := h.ct.isMap
  refine ⟨(ho p hgp).trans h.hp, h.er.put hi hj v, ?_, ?_, h.ct.other (ho B (fun e => by rw [e, hcur] at hm; cases hm)), h.bp, h.bB, h.fb⟩
  · exact row_other h.fr fun q hq => ho q fun e => row_ne h.fr hcur (by decide) (by rw [hq, e])
  · exact row_other h.br fun q hq => ho q fun e => row_ne h.br hcur (by decide) (by rw [hq, e])
end
end Go.Proofs.Ytgiieepfhohmhab
namespace Go.Proofs.Ytgiieepfhohmhab
open Go.RowKit Go.Maps
abbrev zeroEnt : Value := .agg #[.int .i64 0, .int .i64 0, .int .i64 0, .int .i64 0, .int .i64 0, .int .i64 0, .int .i64 0, .int .i64 0, .int .i64 0, .int .i64 0]
theorem info_ent : (Try.prog.info? 63).map (fun i => (i.zero, i.size, i.bytes)) = some (some zeroEnt, 10, 80) := by kernel_rfl
theorem info_int : (Try.prog.info? 3).map (fun i => (i.zero, i.size, i.bytes)) = some (some (.int .i64 0), 1, 8) := by kernel_rfl
theorem ints_one (zs : List Int) : ∀ v ∈ zs.map (Value.int .i64), v.oneCell' = true := by
  intro v hv
  obtain ⟨z, _, rfl⟩ := List.mem_map.1 hv
  rfl
theorem add_off (b o j : Nat) : (⟨b, o, none⟩ : Addr).add j = ⟨b, o + j, none⟩ := by unfold Addr.add; split <;> simp_all
theorem flat_src {w : World} {b o : Nat} {xs : List (List Int)} (h : ∀ i, i < xs.length → ∀ j, j < 10 → w.cell? ⟨b, o + i * 10 + j, none⟩ = some (.int .i64 (fld (rec xs i) j))) : ∀ j u, (flat 10 xs)[j]? = some u → w.cell? ((⟨b, o, none⟩ : Addr).add j) = some u := by
  intro m u hm
  have e : m = (m / 10) * 10 + m % 10 := by omega
  have hr : m % 10 < 10 := Nat.mod_lt _ (by omega)
  generalize m / 10 = q at e
  generalize m % 10 = r at e hr
  subst e
  rw [flat_get hr] at hm
  split at hm
  next hq =>
    rw [add_off, ← Nat.add_assoc, h q hq r hr]
    exact hm
  · cases hm
theorem rowRun (w : World) (base : Nat) (ty : TypeId) (v : Value) (es : List (List Int)) (hown : Row base w v es) (xa : Option Addr) (xc : Nat) (xs : List (List Int)) (hx : Recs w xa 10 xs) (hnil : xa = none → xc = 0)
    (hlen : es.length + xs.length ≤ 100000) (hbase : base ≤ w.heap.size) :
    ∃ v' w', (Builtin.append_ #[34, 34] ty #[v, .slice xa xs.length xc]).run Try.prog w = .ok v' w' ∧ Row base w' v' (es ++ xs) ∧ w.grownBy w' v.ownBlock ∧ (v'.ownBlock = v.ownBlock ∨ v'.ownBlock = some w.heap.size) := by
  obtain ⟨i0, hi, hz0, hz1, hz2⟩ := info_parts info_ent
  rcases xa with _ | ad
  · have hx0 : xs = [] := by
      rcases hx with h | ⟨b, o, h, _⟩
      · exact h
      · cases h
    subst hx0
    rw [hnil rfl]
    have hrun := run_append_owned_none (P := Try.prog) (w := w) base 34 ty 63 i0 10 Try.underlying34 hi v _ _ hown
    refine ⟨v, w, hrun, by rw [List.append_nil]; exact hown, ⟨rfl, rfl, rfl, Nat.le_refl _, fun _ _ _ => rfl⟩, Or.inl rfl⟩
  · have hsrc : ∀ j u, (flat 10 xs)[j]? = some u → w.cell? (ad.add j) = some u := by
      rcases hx with h | ⟨b', o', h, hc⟩
      · subst h
        intro j u hj
        simp [flat] at hj
      · cases h
        exact flat_src hc
    obtain ⟨v', w', hr, h2, h3, h4, h5⟩ := run_append_own_at (P := Try.prog) w base 34 ty 63 i0 zeroEnt 10 80 Try.underlying34 hi hz0 hz1 hz2 rfl (by decide) v _ _ hown ad xs.length xc (flat 10 xs) (flat_length 10 xs) hsrc (flat_one xs 10) (by unfold maxLen; omega) (by omega) hbase
    refine ⟨v', w', hr, ?_, h3, h5⟩
    unfold Row
    rw [List.length_append, flat_append]
    exact h2
theorem numRun (w : World) (base : Nat) (ty : TypeId) (v : Value) (zs : List Int) (hown : NRow base w v zs) (xa : Option Addr) (xc : Nat) (xs : List Int) (hx : Nums w xa xs) (hnil : xa = none → xc = 0)
    (hlen : zs.length + xs.length ≤ 100000) (hbase : base ≤ w.heap.size) :
    ∃ v' w', (Builtin.append_ #[33, 33] ty #[v, .slice xa xs.length xc]).run Try.prog w = .ok v' w' ∧ NRow base w' v' (zs ++ xs) ∧ w.grownBy w' v.ownBlock ∧ (v'.ownBlock = v.ownBlock ∨ v'.ownBlock = some w.heap.size) := by
  obtain ⟨i0, hi, hz0, hz1, hz2⟩ := info_parts info_int
  rcases xa with _ | ad
  · have hx0 : xs = [] := by
      rcases hx with h | ⟨b, o, h, _⟩
      · exact h
      · cases h
    subst hx0
    rw [hnil rfl]
    have hrun := run_append_owned_none (P := Try.prog) (w := w) base 33 ty 3 i0 1 Try.underlying33 hi v _ _ hown
    refine ⟨v, w, hrun, by rw [List.append_nil]; exact hown, ⟨rfl, rfl, rfl, Nat.le_refl _, fun _ _ _ => rfl⟩, Or.inl rfl⟩
  · have hsrc : ∀ j u, (xs.map (Value.int .i64))[j]? = some u → w.cell? (ad.add j) = some u := by
      rcases hx with h | ⟨b', o', h, hc⟩
      · subst h
        intro j u hj
        simp at hj
      · cases h
        intro j u hj
        rw [List.getElem?_map] at hj
        by_cases hl : j < xs.length
        · rw [add_off, hc j hl]
          simp [fld, List.getD_eq_getElem?_getD, hl] at hj ⊢
          exact hj
        · simp [hl] at hj
    obtain ⟨v', w', hr, h2, h3, h4, h5⟩ := run_append_own_at (P := Try.prog) w base 33 ty 3 i0 (.int .i64 0) 1 8 Try.underlying33 hi hz0 hz1 hz2 rfl (by decide) v _ _ hown ad xs.length xc (xs.map (Value.int .i64)) (by simp) hsrc (ints_one xs) (by unfold maxLen; omega) (by omega) hbase
    refine ⟨v', w', hr, ?_, h3, h5⟩
    unfold NRow
    rw [List.length_append, List.map_append]
    exact h2
theorem wp_rows {ops : Array Oper} {rest : List Oper} {o : Oper} {a : Act} {Q : Exit → Act → World → Prop} (w : World) (hgd : o.guard = none) (s x : Operand)
    (ho : o.op = .call { callee := .builtin .append, args := #[s, x], argTypes := #[34, 34] }) (base : Nat) (v : Value) (es : List (List Int)) (hs : a.eval s = v) (hown : Row base w v es)
    (xa : Option Addr) (xc : Nat) (xs : List (List Int)) (hxe : a.eval x = .slice xa xs.length xc) (hx : Recs w xa 10 xs) (hnil : xa = none → xc = 0) (hlen : es.length + xs.length ≤ 100000) (hbase : base ≤ w.heap.size)
    (h : ∀ v' w', Row base w' v' (es ++ xs) → w.grownBy w' v.ownBlock → (v'.ownBlock = v.ownBlock ∨ v'.ownBlock = some w.heap.size) → wpList Try.prog ops Q rest (a.put o.dst v') w') : wpList Try.prog ops Q (o :: rest) a w := by
  refine wpList_plain hgd fun K hK => ?_
  obtain ⟨v', w', hr, h2, h3, h4⟩ := rowRun w base o.type v es hown xa xc xs hx hnil hlen hbase
  unfold Oper.wp execOp
  simp only [ho, resolve, invoke, builtin, Sem.run_bind, Sem.run_pure, Result.andThen_ok, List.map_toArray, List.map_cons, List.map_nil, hs, hxe, hr]
  exact hK _ _ (h v' w' h2 h3 h4)
theorem wp_nums {ops : Array Oper} {rest : List Oper} {o : Oper} {a : Act} {Q : Exit → Act → World → Prop} (w : World) (hgd : o.guard = none) (s x : Operand)
    (ho : o.op = .call { callee := .builtin .append, args := #[s, x], argTypes := #[33, 33] }) (base : Nat) (v : Value) (es : List Int) (hs : a.eval s = v) (hown : NRow base w v es)
    (xa : Option Addr) (xc : Nat) (xs : List Int) (hxe : a.eval x = .slice xa xs.length xc) (hx : Nums w xa xs) (hnil : xa = none → xc = 0) (hlen : es.length + xs.length ≤ 100000) (hbase : base ≤ w.heap.size)
    (h : ∀ v' w', NRow base w' v' (es ++ xs) → w.grownBy w' v.ownBlock → (v'.ownBlock = v.ownBlock ∨ v'.ownBlock = some w.heap.size) → wpList Try.prog ops Q rest (a.put o.dst v') w') : wpList Try.prog ops Q (o :: rest) a w := by
  refine wpList_plain hgd fun K hK => ?_
  obtain ⟨v', w', hr, h2, h3, h4⟩ := numRun w base o.type v es hown xa xc xs hx hnil hlen hbase
  unfold Oper.wp execOp
  simp only [ho, resolve, invoke, builtin, Sem.run_bind, Sem.run_pure, Result.andThen_ok, List.map_toArray, List.map_cons, List.map_nil, hs, hxe, hr]
  exact hK _ _ (h v' w' h2 h3 h4)
theorem step_rows {ops : Array Oper} {o : Oper} {a : Act} {w : World} {K : Act → World → Prop} {Q : Exit → Act → World → Prop} {E : Prop} (hgd : o.guard = none) (s x : Operand)
    (ho : o.op = .call { callee := .builtin .append, args := #[s, x], argTypes := #[34, 34] }) (base : Nat) (v : Value) (es : List (List Int)) (hs : a.eval s = v) (hown : Row base w v es)
    (xa : Option Addr) (xc : Nat) (xs : List (List Int)) (hxe : a.eval x = .slice xa xs.length xc) (hx : Recs w xa 10 xs) (hnil : xa = none → xc = 0) (hlen : es.length + xs.length ≤ 100000) (hbase : base ≤ w.heap.size)
    (h : ∀ v' w', Row base w' v' (es ++ xs) → w.grownBy w' v.ownBlock → (v'.ownBlock = v.ownBlock ∨ v'.ownBlock = some w.heap.size) → K (a.put o.dst v') w') :
    if Region.wanted o (yielded ops a.tmps) = true then Oper.wp Try.prog o a w K Q else E := by
  have hw : Region.wanted o (yielded ops a.tmps) = true := by simp [Region.wanted, hgd]
  rw [if_pos hw]
  obtain ⟨v', w', hr, h2, h3, h4⟩ := rowRun w base o.type v es hown xa xc xs hx hnil hlen hbase
  unfold Oper.wp execOp
  simp only [ho, resolve, invoke, builtin, Sem.run_bind, Sem.run_pure, Result.andThen_ok, List.map_toArray, List.map_cons, List.map_nil, hs, hxe, hr]
  exact h v' w' h2 h3 h4
theorem step_nums {ops : Array Oper} {o : Oper} {a : Act} {w : World} {K : Act → World → Prop} {Q : Exit → Act → World → Prop} {E : Prop} (hgd : o.guard = none) (s x : Operand)
    (ho : o.op = .call { callee := .builtin .append, args := #[s, x], argTypes := #[33, 33] }) (base : Nat) (v : Value) (es : List Int) (hs : a.eval s = v) (hown : NRow base w v es)
    (xa : Option Addr) (xc : Nat) (xs : List Int) (hxe : a.eval x = .slice xa xs.length xc) (hx : Nums w xa xs) (hnil : xa = none → xc = 0) (hlen : es.length + xs.length ≤ 100000) (hbase : base ≤ w.heap.size)
    (h : ∀ v' w', NRow base w' v' (es ++ xs) → w.grownBy w' v.ownBlock → (v'.ownBlock = v.ownBlock ∨ v'.ownBlock = some w.heap.size) → K (a.put o.dst v') w') :
    if Region.wanted o (yielded ops a.tmps) = true then Oper.wp Try.prog o a w K Q else E := by
  have hw : Region.wanted o (yielded ops a.tmps) = true := by simp [Region.wanted, hgd]
  rw [if_pos hw]
  obtain ⟨v', w', hr, h2, h3, h4⟩ := numRun w base o.type v es hown xa xc xs hx hnil hlen hbase
  unfold Oper.wp execOp
  simp only [ho, resolve, invoke, builtin, Sem.run_bind, Sem.run_pure, Result.andThen_ok, List.map_toArray, List.map_cons, List.map_nil, hs, hxe, hr]
  exact h v' w' h2 h3 h4
end Go.Proofs.Ytgiieepfhohmhab
namespace Go.Proofs.Ytgiieepfhohmhab
open Go.RowKit Go.Maps
theorem six_cells {w : World} {b : Nat} {x0 x1 x2 x3 x4 x5 : Value} {t : TypeId} (h : w.heap[b]? = some (.cells #[x0, x1, x2, x3, x4, x5] t)) :
    w.cell? ⟨b, 0, none⟩ = some x0 ∧ w.cell? ⟨b, 1, none⟩ = some x1 ∧ w.cell? ⟨b, 2, none⟩ = some x2 ∧ w.cell? ⟨b, 3, none⟩ = some x3 ∧ w.cell? ⟨b, 4, none⟩ = some x4 ∧ w.cell? ⟨b, 5, none⟩ = some x5 ∧ (∀ j, w.frozen? ⟨b, j, none⟩ = false) :=
  ⟨cell_of_row w b 0 _ _ _ h, cell_of_row w b 1 _ _ _ h, cell_of_row w b 2 _ _ _ h, cell_of_row w b 3 _ _ _ h, cell_of_row w b 4 _ _ _ h, cell_of_row w b 5 _ _ _ h, fun j => frozen_of_row w b j _ _ h⟩
theorem grown_below {w w' : World} (h : w.grownBy w' none) : Below w.heap.size w w' := ⟨h.os, h.tape, h.output, h.size, fun k hk => h.block k hk (by simp)⟩
theorem row_set {w : World} {base : Nat} {e : TypeId} {size : Nat} {v : Value} {n : Nat} {xs : List Value} (h : w.ownsRow base e size v n xs) {b : Nat} (hne : v.ownBlock ≠ some b) (j : Nat) (u : Value) : (w.setCell ⟨b, j, none⟩ u).ownsRow base e size v n xs :=
  row_other h fun g hg => heap_setCell_other w ⟨b, j, none⟩ g u (fun e => hne (by rw [hg, e]))
set_option maxRecDepth 100000 in
set_option maxHeartbeats 4000000 in
theorem fresh_calls (t g0 g1 nx : Int) (free : List Int) (fa ea : Option Addr) (fc ec : Nat) (es : List (List Int)) (w : World) (hfn : fa = none → fc = 0) (hen : ea = none → ec = 0) (hlf : free.length ≤ 1000) (hle : es.length ≤ 1000)
    (hrow : Recs w ea 10 es) (hfr : Nums w fa free) :
    Calls Try.prog 27 #[elderV t g0 g1 nx (.slice fa free.length fc) (.slice ea es.length ec)] w fun e w' => ∃ fv ev, e = .returned (elderV t g0 g1 nx fv ev) ∧ NRow w.heap.size w' fv free ∧ Row w.heap.size w' ev es ∧ Below w.heap.size w w' := by
  obtain ⟨A, hA⟩ : ∃ A : Array Value, A = #[.int .i64 t, .int .i64 g0, .int .i64 g1, .int .i64 nx, .slice fa free.length fc, .slice ea es.length ec] := ⟨_, rfl⟩
  obtain ⟨Z, hZ⟩ : ∃ Z : Array Value, Z = #[.int .i64 0, .int .i64 0, .int .i64 0, .int .i64 0, .slice none 0 0, .slice none 0 0] := ⟨_, rfl⟩
  obtain ⟨W0, hW0⟩ : ∃ W0, W0 = (w.alloc (.cells A 36)).alloc (.cells Z 36) := ⟨_, rfl⟩
  have hs0 : W0.heap.size = w.heap.size + 2 := by rw [hW0]; simp [go_sem]
  have hb0 : Below w.heap.size w W0 := by rw [hW0]; exact ((Below.refl _ w).alloc (Nat.le_refl _) _).alloc (by simp [go_sem]) _
  have hh1 : W0.heap[w.heap.size]? = some (.cells A 36) := by
    rw [hW0, heap_alloc_old _ _ (by simp [go_sem])]
    exact heap_alloc_new w _
  have hh2 : W0.heap[w.heap.size + 1]? = some (.cells Z 36) := by
    have e : w.heap.size + 1 = (w.alloc (.cells A 36)).heap.size := by simp [go_sem]
    rw [hW0, e]
    exact heap_alloc_new _ _
  have HF := hid (hfr.below hb0)
  have HR := hid hrow
  have HS0 := hid hs0
  have HB0 := hid hb0
  have HH1 := hid hh1
  have HH2 := hid hh2
  have HW0 := hid hW0
  have HA := hid hA
  have HZ := hid hZ
  clear hrow hfr hs0 hb0 hh1 hh2 hW0 hA hZ
  go_enter Try.func27, Try.ntmps27
  go_wp2_with (first
    | (at_builtin; rw [← HA.out, ← HZ.out, ← HW0.out]; refine wp_nums _ rfl _ _ rfl w.heap.size _ [] rfl (World.ownsRow_nil _ _ _ _) fa fc free rfl HF.out hfn (by simp; omega) (by rw [HS0.out]; omega) ?_
       intro v1 w1 hr1 hg1 hl1
       rw [List.nil_append] at hr1
       obtain ⟨va, vc, rfl, _, _, _⟩ := hr1.open
       have HR1 := hid hr1
       have HK1 := hid (grown_below hg1)
       have HL1 := hid hl1
       have e1 := (HK1.out.block w.heap.size (by rw [HS0.out]; omega)).trans HH1.out
       rw [HA.out] at e1
       have E1 := hid e1
       obtain ⟨a0, a1, a2, a3, a4, a5, af⟩ := six_cells e1
       have af4 := af 4
       clear hr1 hg1 hl1 e1 af a0 a1 a2 a3)
    | (at_builtin; refine wp_rows _ rfl _ _ rfl w.heap.size _ [] rfl (World.ownsRow_nil _ _ _ _) ea ec es rfl (HR.out.below ((HB0.out.trans (HK1.out.mono (by rw [HS0.out]; omega))).setCell (p := ⟨w.heap.size, 4, none⟩) (Nat.le_refl _) _)) hen (by simp; omega) (by have h := HK1.out.size; rw [HS0.out] at h; simp [go_sem]; omega) ?_
       intro v2 w2 hr2 hg2 hl2
       rw [List.nil_append] at hr2
       obtain ⟨ua, uc, rfl, _, _, _⟩ := hr2.open
       have HR2 := hid hr2
       have HK2 := hid (grown_below hg2)
       have HL2 := hid hl2
       have hsz : w.heap.size + 2 ≤ w1.heap.size := by have h := HK1.out.size; rw [HS0.out] at h; exact h
       have e2 := (HK2.out.block w.heap.size (by simp [go_sem]; omega)).trans (heap_setCell_same w1 w.heap.size 4 _ _ (.slice va free.length vc) E1.out)
       have e3 := (HK2.out.block (w.heap.size + 1) (by simp [go_sem]; omega)).trans ((heap_setCell_other w1 ⟨w.heap.size, 4, none⟩ (w.heap.size + 1) (.slice va free.length vc) (by simp)).trans ((HK1.out.block (w.heap.size + 1) (by rw [HS0.out]; omega)).trans HH2.out))
       rw [HZ.out] at e3
       have e2' : w2.heap[w.heap.size]? = some (.cells #[.int .i64 t, .int .i64 g0, .int .i64 g1, .int .i64 nx, .slice va free.length vc, .slice ea es.length ec] 36) := e2
       obtain ⟨b0, b1, b2, b3, b4, b5, bf⟩ := six_cells e2'
       obtain ⟨d0, d1, d2, d3, d4, d5, df⟩ := six_cells e3
       have E2 := hid e2'
       have E3 := hid e3
       clear hr2 hg2 hl2 e2 e2' e3 a4 a5 af4))
  have n1a := row_ne HR1.out E1.out (by decide)
  have n1b := row_ne HR1.out ((HK1.out.block (w.heap.size + 1) (by rw [HS0.out]; omega)).trans HH2.out) (by decide)
  have n2a := row_ne HR2.out E2.out (by decide)
  have n2b := row_ne HR2.out E3.out (by decide)
  have r1 := row_below (row_set HR1.out n1a 4 (.slice va free.length vc)) HK2.out
  have hbw : Below w.heap.size w w2 := (((HB0.out.trans (HK1.out.mono (by rw [HS0.out]; omega))).setCell (p := ⟨w.heap.size, 4, none⟩) (Nat.le_refl _) (.slice va free.length vc))).trans (HK2.out.mono (by simp [go_sem]; omega))
  refine bodyPost_ret (v := elderV t g0 g1 nx (.slice va free.length vc) (.slice ua es.length uc)) (by simp [results, Try.results27, go_sem, d0, d1, d2, d3, d4, d5]) rfl ⟨_, _, rfl, ?_, ?_, ?_⟩
  · exact row_set (row_set (row_set (row_set (row_set (row_set (row_set r1 n1a _ _) n1b _ _) n1b _ _) n1b _ _) n1b _ _) n1b _ _) n1b _ _
  · exact row_set (row_set (row_set (row_set (row_set (row_set (row_set HR2.out n2a _ _) n2b _ _) n2b _ _) n2b _ _) n2b _ _) n2b _ _) n2b _ _
  · exact ((((((hbw.setCell (p := ⟨w.heap.size, 5, none⟩) (Nat.le_refl _) _).setCell (p := ⟨w.heap.size + 1, 0, none⟩) (Nat.le_succ _) _).setCell (p := ⟨w.heap.size + 1, 1, none⟩) (Nat.le_succ _) _).setCell (p := ⟨w.heap.size + 1, 2, none⟩) (Nat.le_succ _) _).setCell (p := ⟨w.heap.size + 1, 3, none⟩) (Nat.le_succ _) _).setCell (p := ⟨w.heap.size + 1, 4, none⟩) (Nat.le_succ _) _).setCell (p := ⟨w.heap.size + 1, 5, none⟩) (Nat.le_succ _) _
end Go.Proofs.Ytgiieepfhohmhab
namespace Go.Proofs.Ytgiieepfhohmhab
open Go.RowKit Go.Maps
theorem Counts.run {w : World} {B n : Nat} {f : Int → Int} (h : Counts w B n f) (hn : n ≤ 100000) {id c : Int} (hwf : (Lit.int .i64 id).wf = true) (hwc : (Lit.int .i64 c).wf = true) :
    ∃ w', (Instr.mapUpdate 80 (.map (some B)) (.int .i64 id) (.int .i64 c)).run Try.prog w = .ok () w' ∧ Counts w' B (n + 1) (updZ f id c) ∧ w.grownBy w' (some B) := by
  obtain ⟨D, h1, h2, h3⟩ := h
  obtain ⟨w', hr, ho, hg⟩ := h1.update intKey Try.underlying80 (by unfold maxLen; omega) (keyOf_int_mk Try.underlying3 hwf) (plainElem_int Try.underlying3 hwc)
  refine ⟨w', hr, ⟨_, ho, h2.put _ _, fun j hj => ?_⟩, hg⟩
  by_cases e : j = id
  · rw [e, atKey_put_same h2 (by trivial), updZ_same]
  · rw [atKey_put_other (by intro h; exact e (by simpa using h)), updZ_other _ _ e]
    exact h3 j hj
theorem own_mono {w : World} {base base' : Nat} {e : TypeId} {size : Nat} {v : Value} {n : Nat} {xs : List Value} (h : w.ownsRow base e size v n xs) (hb : base' ≤ base) : w.ownsRow base' e size v n xs := by
  refine ⟨h.1, ?_⟩
  rcases h.2 with hn | ⟨g, cap, cur, rfl, hbg, rest⟩
  · exact .inl hn
  · exact .inr ⟨g, cap, cur, rfl, by omega, rest⟩
def wasF (l : List Int) (id : Int) : Int := if id ∈ l then 1 else 0
theorem wasF_snoc (l : List Int) (x : Int) : updZ (wasF l) x 1 = wasF (l ++ [x]) := by
  funext j
  by_cases h : j = x
  · subst h
    rw [updZ_same]
    simp [wasF]
  · rw [updZ_other _ _ h]
    simp [wasF, h]
theorem Gm.marked {base : Nat} {w w' : World} {p : Nat} {ev fv bv : Value} {B : Nat} {s : St} {was was' : Int → Int} (h : Gm base w p ev fv bv B s was) (hg : w.grownBy w' (some B)) (hc : Counts w' B 1000 was') : Gm base w' p ev fv bv B s was' := by
  obtain ⟨me, mc, hm⟩ := h.ct.isMap
  refine ⟨(hg.block p h.lt (fun e => h.pB (by simpa using e))).trans h.hp, ?_, ?_, ?_, hc, h.bp, h.bB, h.fb⟩
  · exact World.ownsRow.kept h.er hg (Or.inr (row_ne_map h.er hm))
  · exact World.ownsRow.kept h.fr hg (Or.inr (row_ne_map h.fr hm))
  · exact World.ownsRow.kept h.br hg (Or.inr (row_ne_map h.br hm))
theorem below_grown {B base : Nat} {a w w' : World} (h : Below base a w) (hg : w.grownBy w' (some B)) (hb : base ≤ B) (hs : base ≤ w.heap.size) : Below base a w' := h.grown hg hs (fun k hk => by cases hk; exact hb)
theorem drew_grown {w w' : World} {r : Option Nat} (h : w.drew.grownBy w' r) : w.grownBy w' r := ⟨h.os, h.tape, h.output, h.size, h.block⟩
set_option maxRecDepth 100000 in
set_option maxHeartbeats 4000000 in
theorem begin_calls (t g0 g1 nx : Int) (free : List Int) (fa ea : Option Addr) (fc ec : Nat) (es : List (List Int)) (w : World) (hfn : fa = none → fc = 0) (hen : ea = none → ec = 0) (hlf : free.length ≤ 1000) (hle : es.length ≤ 100)
    (hrow : Recs w ea 10 es) (hfr : Nums w fa free) (hwe : ∀ i, i < es.length → (Lit.int .i64 (fld (rec es i) 0)).wf = true) :
    Calls Try.prog 55 #[elderV t g0 g1 nx (.slice fa free.length fc) (.slice ea es.length ec)] w fun e w' => ∃ p ev fv B, e = .returned (.pointer (some ⟨p, 0, none⟩)) ∧ Gm w.heap.size w' p ev fv (.slice none 0 0) B ⟨t, g0, g1, nx, free, es, []⟩ (wasF (idsE es)) ∧ Below w.heap.size w w' := by
  obtain ⟨w1, hw1⟩ : ∃ w1, w1 = w.alloc (.cells #[.int .i64 t, .int .i64 g0, .int .i64 g1, .int .i64 nx, .slice fa free.length fc, .slice ea es.length ec] 36) := ⟨_, rfl⟩
  have hb1 : Below w.heap.size w w1 := by rw [hw1]; exact (Below.refl _ w).alloc (Nat.le_refl _) _
  have HS1 : Hid (w1.heap.size = w.heap.size + 1) := by rw [hw1]; show _ = _; simp [go_sem]
  have HC := hid (fresh_calls t g0 g1 nx free fa ea fc ec es w1 hfn hen hlf (by omega) (hrow.below hb1) (hfr.below hb1))
  have HR := hid hrow
  have HWE := hid hwe
  have HW1 := hid hw1
  have HB1 := hid hb1
  clear hrow hfr hwe hw1 hb1
  have hmm := @run_makeMap Try.prog
  go_enter Try.func55, Try.ntmps55
  go_wp2_with fail
  rw [← HW1.out]
  refine HC.out.mono ?_
  clear HC
  rintro e w2 ⟨fv, ev, rfl, hr1, hr2, hb2⟩
  obtain ⟨q0, q1, q2, q3, q4, q5⟩ := box_new HW1.out hb2
  have hsz2 : w.heap.size < w2.heap.size := by have h := hb2.size; rw [HS1.out] at h; omega
  have HB2 := hid (HB1.out.trans (hb2.mono (by rw [HS1.out]; omega)))
  have HR1 := hid (own_mono hr1 (show w.heap.size ≤ _ by rw [HS1.out]; omega))
  have HR2 := hid (own_mono hr2 (show w.heap.size ≤ _ by rw [HS1.out]; omega))
  clear hr1 hr2 hb2 HW1 HB1 HS1 q0 q1 q2 q3 q4
  go_wp2
  clear q5 hmm
  obtain ⟨W, hW⟩ : ∃ W, W = (w2.alloc (.map #[] 0)).alloc (.cells #[.int .i64 t, .int .i64 g0, .int .i64 g1, .int .i64 nx, fv, ev, .map (some w2.heap.size), .slice none 0 0] 87) := ⟨_, rfl⟩
  have hsm : (w2.alloc (.map #[] 0)).heap.size = w2.heap.size + 1 := by simp [go_sem]
  have hb3 : Below w2.heap.size w2 W := by rw [hW]; exact ((Below.refl _ w2).alloc (Nat.le_refl _) _).alloc (by rw [hsm]; omega) _
  have hC0 : Counts W w2.heap.size 0 (wasF (idsE (es.take 0))) := by
    have e : wasF (idsE (es.take 0)) = fun _ => 0 := by funext j; simp [wasF, idsE]
    rw [e, hW]
    exact (Counts.made w2).alloc _
  have hG0 : Gm w.heap.size W (w2.heap.size + 1) ev fv (.slice none 0 0) w2.heap.size ⟨t, g0, g1, nx, free, es, []⟩ (wasF (idsE (es.take 0))) := by
    refine ⟨?_, row_below HR2.out hb3, row_below HR1.out hb3, World.ownsRow_nil _ _ _ _, hC0.mono (by omega), by omega, by omega, ?_⟩
    · rw [hW, ← hsm]
      exact heap_alloc_new _ _
    · by_cases h : fv.ownBlock = none
      · exact Or.inl h
      · exact Or.inr h
  have HC0 := hid hC0
  have HG0 := hid hG0
  have HB3 : Hid (Below w.heap.size w W) := HB2.out.trans (hb3.mono (by omega))
  clear hC0 hG0 hb3 hsm HR1 HR2
  rw [← hW]
  have HW := hid hW
  clear hW
  go_loopw [14] (fun i wr => ∃ k : Nat, k ≤ es.length ∧ i = .int .i64 k ∧ Hid (Counts wr w2.heap.size k (wasF (idsE (es.take k)))) ∧ Hid (Gm w.heap.size wr (w2.heap.size + 1) ev fv (.slice none 0 0) w2.heap.size ⟨t, g0, g1, nx, free, es, []⟩ (wasF (idsE (es.take k)))) ∧ Hid (Below w.heap.size w wr)) (fun i _ => es.length - (intOf i).toNat)
  case atStart => exact ⟨0, Nat.zero_le _, rfl, HC0, HG0, HB3⟩
  case round =>
    clear HC0 HG0 HB3 HW HB2
    obtain ⟨k, hk, rfl, HC, HG, HB⟩ := hrel
    by_cases hlt : k < es.length
    · obtain ⟨b, o, rfl, hb, l0, l1, l2, l3, l4, l5, l6, l7, l8, l9⟩ := (HR.out.below HB.out).ten hlt
      have hltz : (k : Int) < (es.length : Int) := by omega
      have HWF := hid (HWE.out k hlt)
      have HT := hid (ids_take hlt)
      generalize rec es k = y at l0 l1 l2 l3 l4 l5 l6 l7 l8 l9 HWF HT
      go_wp2_with fail
      have hbw : Below wr.heap.size wr (wr.alloc (.cells (entC y) 63)) := (Below.refl _ wr).alloc (Nat.le_refl _) _
      have HG1 := hid (HG.out.below hbw)
      have HB1 : Hid (Below w.heap.size w (wr.alloc (.cells (entC y) 63))) := HB.out.trans (hbw.mono HB.out.size)
      obtain ⟨w3, hrun, hc3, hg3⟩ := Counts.run (w := (wr.alloc (.cells (entC y) 63)).drew) (HC.out.alloc _) (by omega) HWF.out (wf64 (a := 1) (by omega) (by omega))
      have HC3 := hid hc3
      have HG3 := hid (drew_grown hg3)
      have c6 := HG1.out.cell 6
      have y0 : (wr.alloc (.cells (entC y) 63)).cell? ⟨wr.heap.size, 0, none⟩ = some (.int .i64 (fld y 0)) := by simp [go_sem]
      clear hc3 hg3 l0 l1 l2 l3 l4 l5 l6 l7 l8 l9 hbw
      generalize wr.alloc (.cells (entC y) 63) = W1 at hrun HG1 HB1 HG3 c6 y0 ⊢
      go_region
      all_goals
        go_wp2
        go_roundw
        case rel =>
          refine ⟨k + 1, by omega, by go_num, ?_, ?_, ?_⟩
          · show Counts _ _ _ _
            rw [HT.out, ← wasF_snoc]
            exact HC3.out
          · show Gm _ _ _ _ _ _ _ _ _
            rw [HT.out, ← wasF_snoc]
            exact HG1.out.marked HG3.out (HC3.out.mono (by omega))
          · exact below_grown HB1.out HG3.out (by omega) HB1.out.size
        case measure => simp [intOf]; omega
    · have hltz : ¬ (k : Int) < (es.length : Int) := by omega
      have e : es.take k = es := List.take_of_length_le (by omega)
      have hG := HG.out
      rw [e] at hG
      have HG1 := hid hG
      clear hG HC HG e
      go_wp2
      go_ret
      exact ⟨_, rfl, ⟨_, _, _, HG1.out⟩, HB.out⟩
end Go.Proofs.Ytgiieepfhohmhab
namespace Go.Proofs.Ytgiieepfhohmhab
open Go.RowKit Go.Maps
def turnW (w : World) (g m : Nat) (does : Int) : World :=
  (((w.setCell ⟨g, m + 6, none⟩ (.int .i64 does)).setCell ⟨g, m + 7, none⟩ (.int .i64 0)).setCell ⟨g, m + 8, none⟩ (.int .i64 0)).setCell ⟨g, m + 9, none⟩ (.int .i64 0)
def turnR (u : List Int) (does : Int) : List Int := updR 10 (updR 10 (updR 10 (updR 10 u 6 does) 7 0) 8 0) 9 0
theorem set_set {es : List (List Int)} {i : Nat} {a b : List Int} : (es.set i a).set i b = es.set i b := by simp
theorem rec_set_same {es : List (List Int)} {i : Nat} {a : List Int} (h : i < es.length) : rec (es.set i a) i = a := by rw [rec_set h, if_pos rfl]
set_option maxRecDepth 100000 in
set_option maxHeartbeats 1000000 in
theorem turn_calls (g m : Nat) (does : Int) (w : World) (x6 x7 x8 x9 : Value) (h6 : w.cell? ⟨g, m + 6, none⟩ = some x6) (h7 : w.cell? ⟨g, m + 7, none⟩ = some x7) (h8 : w.cell? ⟨g, m + 8, none⟩ = some x8) (h9 : w.cell? ⟨g, m + 9, none⟩ = some x9)
    (f6 : w.frozen? ⟨g, m + 6, none⟩ = false) (f7 : w.frozen? ⟨g, m + 7, none⟩ = false) (f8 : w.frozen? ⟨g, m + 8, none⟩ = false) (f9 : w.frozen? ⟨g, m + 9, none⟩ = false) :
    Calls Try.prog 62 #[.pointer (some ⟨g, m, none⟩), .int .i64 does] w fun e w' => e = .returned (.tuple #[]) ∧ w' = turnW w g m does := by
  unfold turnW
  go_enter Try.func62, Try.ntmps62
  go_wp2
  go_end0
  exact ⟨rfl, rfl⟩
section
variable {base : Nat} {w : World} {p : Nat} {fv bv : Value} {B : Nat} {s : St} {was : Int → Int}
theorem gm_turn {g n c : Nat} (h : Gm base w p (.slice (some ⟨g, 0, none⟩) n c) fv bv B s was) {i : Nat} (hi : i < s.es.length) (does : Int) :
    Gm base (turnW w g (i * 10) does) p (.slice (some ⟨g, 0, none⟩) n c) fv bv B { s with es := s.es.set i (turnR (rec s.es i) does) } was := by
  have h1 := gm_rput h hi (j := 6) (by omega) does
  have h2 := gm_rput h1 (i := i) (by simpa using hi) (j := 7) (by omega) 0
  have h3 := gm_rput h2 (i := i) (by simpa using hi) (j := 8) (by omega) 0
  have h4 := gm_rput h3 (i := i) (by simpa using hi) (j := 9) (by omega) 0
  simp only [set_set] at h4
  rw [rec_set_same (by simpa using hi), rec_set_same (by simpa using hi), rec_set_same (by simpa using hi)] at h4
  exact h4
end
theorem below_turnW {base : Nat} {a w : World} {g m : Nat} {does : Int} (h : Below base a w) (hg : base ≤ g) : Below base a (turnW w g m does) :=
  (((h.setCell (p := ⟨g, m + 6, none⟩) hg _).setCell (p := ⟨g, m + 7, none⟩) hg _).setCell (p := ⟨g, m + 8, none⟩) hg _).setCell (p := ⟨g, m + 9, none⟩) hg _
theorem Row.ten {base : Nat} {w : World} {g n c : Nat} {es : List (List Int)} (h : Row base w (.slice (some ⟨g, 0, none⟩) n c) es) {i : Nat} (hi : i < es.length) :
    (∀ j, j < 10 → w.cell? ⟨g, i * 10 + j, none⟩ = some (.int .i64 (fld (rec es i) j))) ∧ (∀ j, w.frozen? ⟨g, j, none⟩ = false) := by
  have hn : n = es.length := by
    rcases h.2 with ⟨h', _⟩ | ⟨g', cap', cur, h', _⟩
    · cases h'
    · cases h'; rfl
  subst hn
  refine ⟨fun j hj => ?_, fun j => World.ownsRow.frozenAt h j⟩
  have hlt : i * 10 + j < es.length * 10 := by omega
  rw [World.ownsRow.cellAt h _ hlt, flat_get hj, if_pos hi]
def aimS (s : St) (i : Nat) (does target : Int) : St :=
  if aimE s.es (rec s.es i) does target = true then { s with es := s.es.set i (updR 10 (turnR (rec s.es i) does) 9 target) } else s
set_option maxRecDepth 100000 in
set_option maxHeartbeats 4000000 in
theorem aim_calls (base p g n c : Nat) (fv bv : Value) (B : Nat) (s : St) (was : Int → Int) (i : Nat) (does target : Int) (w : World) (hi : i < s.es.length) (hn : s.es.length ≤ 1000)
    (h : Gm base w p (.slice (some ⟨g, 0, none⟩) n c) fv bv B s was) :
    Calls Try.prog 68 #[.pointer (some ⟨p, 0, none⟩), .pointer (some ⟨g, i * 10, none⟩), .int .i64 does, .int .i64 target] w fun e w' => e = .returned (.tuple #[]) ∧ Gm base w' p (.slice (some ⟨g, 0, none⟩) n c) fv bv B (aimS s i does target) was ∧ Below base w w' := by
  obtain ⟨ea, c', hev, hcap, hrecs, hg0⟩ := h.er.open
  obtain ⟨g', hg', hbg, hgl⟩ := hg0 (by omega)
  cases hev
  cases hg'
  have HG := hid h
  have HR := hid hrecs
  obtain ⟨c0, c1, c2, c3, c4, c5, c6, c7⟩ := h.eight
  obtain ⟨hc, hf⟩ := h.er.ten hi
  have l0 : w.cell? ⟨g, i * 10, none⟩ = some (.int .i64 (fld (rec s.es i) 0)) := hc 0 (by omega)
  have l1 := hc 1 (by omega)
  have l2 := hc 2 (by omega)
  have l3 := hc 3 (by omega)
  have l4 := hc 4 (by omega)
  have l5 := hc 5 (by omega)
  have l6 := hc 6 (by omega)
  have l7 := hc 7 (by omega)
  have l8 := hc 8 (by omega)
  have l9 := hc 9 (by omega)
  clear h hrecs hg0 hc hf c0 c1 c2 c3 c4 c6 c7
  have HA : Hid (∀ W, Recs W (some ⟨g, 0, none⟩) 10 s.es → Calls Try.prog 23 #[.slice (some ⟨g, 0, none⟩) s.es.length c, entV (rec s.es i), .int .i64 does, .int .i64 target] W fun e w' => e = .returned (.bool (aimE s.es (rec s.es i) does target)) ∧ Below W.heap.size W w') := fun W hW => mayAim_calls s.es _ c (rec s.es i) does target W hn hW
  go_enter Try.func68, Try.ntmps68
  go_wp2_with fail
  go_cut [18] (fun r wx => r = .bool (aimE s.es (rec s.es i) does target) ∧ Hid (Below w.heap.size w wx))
  case first =>
    go_region_with (go_at_call 23; refine (HA.out _ (HR.out.drewN _)).mono ?_; rintro e w2 ⟨rfl, hb2⟩)
    all_goals
      have HB2 := hid (below_of_drewN hb2)
      clear hb2 l0 l1 l2 l3 l4 l5 l6 l7 l8 l9 c5
      go_wp2
      go_meet
      exact ⟨rfl, HB2⟩
  case rest =>
    obtain ⟨rfl, HB⟩ := hcut
    clear l0 l1 l2 l3 l4 l5 l6 l7 l8 l9 c5 HA
    have hG := HG.out.below HB.out
    have hsz := HB.out.size
    obtain ⟨hc, hf⟩ := hG.er.ten hi
    have l6 := hc 6 (by omega)
    have l7 := hc 7 (by omega)
    have l8 := hc 8 (by omega)
    have l9 := hc 9 (by omega)
    have f6 := hf (i * 10 + 6)
    have f7 := hf (i * 10 + 7)
    have f8 := hf (i * 10 + 8)
    have f9 := hf (i * 10 + 9)
    have HG2 := hid hG
    clear hG hc hf HG HR
    cases hb : aimE s.es (rec s.es i) does target
    · have HE : Hid (aimS s i does target = s) := by show _ = _; unfold aimS; rw [hb]; rfl
      clear hb
      go_wp2
      go_end0
      exact ⟨rfl, by rw [HE.out]; exact HG2.out, HB.out.mono (by omega)⟩
    · have HE : Hid (aimS s i does target = { s with es := s.es.set i (updR 10 (turnR (rec s.es i) does) 9 target) }) := by show _ = _; unfold aimS; rw [if_pos hb]
      clear hb
      go_wp2_with fail
      refine (turn_calls g (i * 10) does _ _ _ _ _ l6 l7 l8 l9 f6 f7 f8 f9).mono ?_
      rintro e w3 ⟨rfl, rfl⟩
      clear l6 l7 l8 l9 f6 f7 f8 f9
      have hG3 := gm_turn HG2.out hi does
      have hi3 : i < (s.es.set i (turnR (rec s.es i) does)).length := by simpa using hi
      obtain ⟨hc, hf⟩ := hG3.er.ten hi3
      have l9 := hc 9 (by omega)
      have f9 := hf (i * 10 + 9)
      have hG4 := gm_rput hG3 hi3 (j := 9) (by omega) target
      simp only [set_set] at hG4
      rw [rec_set_same hi] at hG4
      have HG4 := hid hG4
      have HB3 := hid (below_turnW (m := i * 10) (does := does) (HB.out.mono (B' := base) (by omega)) hbg)
      clear hG3 hc hf hG4 HG2
      generalize turnW _ g (i * 10) does = w3 at l9 f9 HG4 HB3
      go_wp2
      go_end0
      exact ⟨rfl, by rw [HE.out]; exact HG4.out, HB3.out.setCell (p := ⟨g, i * 10 + 9, none⟩) hbg _⟩
end Go.Proofs.Ytgiieepfhohmhab
namespace Go.Proofs.Ytgiieepfhohmhab
open Go.RowKit Go.Maps
def GmE (base : Nat) (w : World) (p : Nat) (s : St) (was : Int → Int) : Prop := ∃ ev fv bv B, Gm base w p ev fv bv B s was
theorem GmE.below {base : Nat} {w w' : World} {p : Nat} {s : St} {was : Int → Int} (h : GmE base w p s was) (hb : Below w.heap.size w w') : GmE base w' p s was := by
  obtain ⟨ev, fv, bv, B, h⟩ := h
  exact ⟨ev, fv, bv, B, h.below hb⟩
def Apart (w : World) (p k : Nat) : Prop := k ≠ p ∧ ∀ j v, w.cell? ⟨p, j, none⟩ = some v → v.ownBlock ≠ some k ∧ v ≠ .map (some k)
def Fr (w w' : World) (p : Nat) : Prop := w.heap.size ≤ w'.heap.size ∧ ∀ k, k < w.heap.size → Apart w p k → w'.heap[k]? = w.heap[k]? ∧ Apart w' p k
theorem Fr.trans {a b c : World} {p : Nat} (h : Fr a b p) (g : Fr b c p) : Fr a c p :=
  ⟨Nat.le_trans h.1 g.1, fun k hk ha => by
    obtain ⟨h1, h2⟩ := h.2 k hk ha
    obtain ⟨g1, g2⟩ := g.2 k (Nat.lt_of_lt_of_le hk h.1) h2
    exact ⟨g1.trans h1, g2⟩⟩
theorem Fr.below {w w' : World} {p : Nat} (hb : Below w.heap.size w w') (hp : p < w.heap.size) : Fr w w' p :=
  ⟨hb.size, fun k hk ha => ⟨hb.block k hk, ha.1, fun j v hv => ha.2 j v (by rw [← hv]; exact (hb.cell (p := ⟨p, j, none⟩) hp).symm)⟩⟩
theorem Gm.apart {base : Nat} {w : World} {p : Nat} {ev fv bv : Value} {B : Nat} {s : St} {was : Int → Int} (h : Gm base w p ev fv bv B s was) {k : Nat} : Apart w p k ↔ (k ≠ p ∧ ev.ownBlock ≠ some k ∧ fv.ownBlock ≠ some k ∧ bv.ownBlock ≠ some k ∧ k ≠ B) := by
  constructor
  · rintro ⟨h1, h2⟩
    exact ⟨h1, (h2 5 ev (h.cell 5)).1, (h2 4 fv (h.cell 4)).1, (h2 7 bv (h.cell 7)).1, fun e => (h2 6 (.map (some B)) (h.cell 6)).2 (by rw [e])⟩
  · rintro ⟨h1, h2, h3, h4, h5⟩
    refine ⟨h1, fun j v hv => ?_⟩
    rw [h.cell j] at hv
    match j, hv with
    | 0, hv => cases hv; exact ⟨by simp [Value.ownBlock], by simp⟩
    | 1, hv => cases hv; exact ⟨by simp [Value.ownBlock], by simp⟩
    | 2, hv => cases hv; exact ⟨by simp [Value.ownBlock], by simp⟩
    | 3, hv => cases hv; exact ⟨by simp [Value.ownBlock], by simp⟩
    | 4, hv => cases hv; exact ⟨h3, by obtain ⟨a, c, rfl, _⟩ := h.fr.open; simp⟩
    | 5, hv => cases hv; exact ⟨h2, by obtain ⟨a, c, rfl, _⟩ := h.er.open; simp⟩
    | 6, hv => cases hv; exact ⟨by simp [Value.ownBlock], by simpa using fun e => h5 e.symm⟩
    | 7, hv => cases hv; exact ⟨h4, by obtain ⟨a, c, rfl, _⟩ := h.br.open; simp⟩
    | j + 8, hv => simp at hv
theorem Gm.frame {base : Nat} {w w' : World} {p : Nat} {ev fv bv ev' fv' bv' : Value} {B : Nat} {s s' : St} {was was' : Int → Int} (h : Gm base w p ev fv bv B s was) (h' : Gm base w' p ev' fv' bv' B s' was')
    (hs : w.heap.size ≤ w'.heap.size) (hk : ∀ k, k < w.heap.size → k ≠ p → ev.ownBlock ≠ some k → fv.ownBlock ≠ some k → bv.ownBlock ≠ some k → k ≠ B → w'.heap[k]? = w.heap[k]?)
    (he : ∀ k, ev'.ownBlock = some k → ev.ownBlock = some k ∨ w.heap.size ≤ k) (hf : ∀ k, fv'.ownBlock = some k → fv.ownBlock = some k ∨ w.heap.size ≤ k) (hb : ∀ k, bv'.ownBlock = some k → bv.ownBlock = some k ∨ w.heap.size ≤ k) : Fr w w' p := by
  refine ⟨hs, fun k hlt ha => ?_⟩
  obtain ⟨a1, a2, a3, a4, a5⟩ := h.apart.1 ha
  refine ⟨hk k hlt a1 a2 a3 a4 a5, h'.apart.2 ⟨a1, fun e => ?_, fun e => ?_, fun e => ?_, a5⟩⟩
  · rcases he k e with x | x
    · exact a2 x
    · omega
  · rcases hf k e with x | x
    · exact a3 x
    · omega
  · rcases hb k e with x | x
    · exact a4 x
    · omega
theorem Gm.setFrame {base : Nat} {w : World} {p : Nat} {ev fv bv ev' fv' bv' : Value} {B : Nat} {s s' : St} {was was' : Int → Int} {j : Nat} {v : Value} (h : Gm base w p ev fv bv B s was) (h' : Gm base (w.setCell ⟨p, j, none⟩ v) p ev' fv' bv' B s' was')
    (he : ev'.ownBlock = ev.ownBlock) (hf : fv'.ownBlock = fv.ownBlock) (hb : bv'.ownBlock = bv.ownBlock) : Fr w (w.setCell ⟨p, j, none⟩ v) p :=
  h.frame h' (by simp) (fun k _ hkp _ _ _ _ => heap_setCell_other w ⟨p, j, none⟩ k v (fun e => hkp e)) (fun k hk => Or.inl (he ▸ hk)) (fun k hk => Or.inl (hf ▸ hk)) (fun k hk => Or.inl (hb ▸ hk))
def roomE (es : List (List Int)) (u : List Int) (x y : Int) : Bool := Pl.onB x y && (decide (Pl.farZ (fld u 3) (fld u 4) x y ≤ 1) && decide (idxZ (isAt x y) es < 0))
set_option maxRecDepth 100000 in
set_option maxHeartbeats 4000000 in
theorem hasRoom_calls (base p : Nat) (s : St) (was : Int → Int) (u : List Int) (x y : Int) (w : World) (hn : s.es.length ≤ 1000) (hu : (0 ≤ fld u 3 ∧ fld u 3 < 12) ∧ 0 ≤ fld u 4 ∧ fld u 4 < 12) (h : GmE base w p s was) :
    Calls Try.prog 83 #[.pointer (some ⟨p, 0, none⟩), entV u, .int .i64 x, .int .i64 y] w fun e w' => e = .returned (.bool (roomE s.es u x y)) ∧ Below w.heap.size w w' := by
  obtain ⟨ev, fv, bv, B, h⟩ := h
  obtain ⟨ea, c, rfl, hcap, hrecs, hg0⟩ := h.er.open
  have hlt := h.lt
  obtain ⟨c0, c1, c2, c3, c4, c5, c6, c7⟩ := h.eight
  have HR := hid hrecs
  clear h hrecs hg0 c0 c1 c2 c3 c4 c6 c7
  have hb1 : Below w.heap.size w (w.alloc (.cells (entC u) 63)) := (Below.refl _ w).alloc (Nat.le_refl _) _
  have HS := hid (standing_calls x y s.es ea c (w.alloc (.cells (entC u) 63)) hn (HR.out.below hb1))
  have HB1 := hid hb1
  have hpn : p ≠ w.heap.size := by omega
  clear hb1
  unfold roomE
  go_enter Try.func83, Try.ntmps83
  go_wp2_with fail
  refine (on_calls _ _ _).mono ?_
  rintro e w' ⟨rfl, rfl⟩
  cases h1 : Pl.onB x y
  · go_wp2
    go_ret
    exact ⟨retB (by rw [h1]; rfl), HB1.out⟩
  have hon := Pl.onB_true h1
  go_wp2_with fail
  refine (far_calls _ _ _ _ hu hon _).mono ?_
  rintro e w' ⟨rfl, rfl⟩
  have H1 := hid h1
  clear hon h1
  by_cases hf : Pl.farZ (fld u 3) (fld u 4) x y ≤ 1
  · have HF := hid hf
    go_wp2_with fail
    refine HS.out.mono ?_
    rintro e w2 ⟨rfl, hb2⟩
    have HB2 := hid (HB1.out.trans (hb2.mono (by simp [go_sem])))
    clear hb2 HS hf c5
    by_cases hz : idxZ (isAt x y) s.es < 0
    all_goals
      have HZ := hid hz
      go_wp2
      go_ret
      exact ⟨retB (by rw [H1.out]; simp [HF.out, HZ.out]), HB2.out⟩
  · have HF := hid (decide_eq_false hf)
    go_wp2
    go_ret
    exact ⟨retB (by rw [H1.out, HF.out]; rfl), HB1.out⟩
section
variable (base p : Nat) (s : St) (was : Int → Int) (w : World)
theorem nrow_pop {w : World} {base g m c : Nat} {zs : List Int} (h : NRow base w (.slice (some ⟨g, 0, none⟩) zs.length c) zs) (hm : zs.length = m + 1) : NRow base w (.slice (some ⟨g, 0, none⟩) m c) (zs.take m) := by
  have hl : (zs.take m).length = m := by rw [List.length_take]; omega
  have e : zs.map (Value.int .i64) = (zs.take m).map (Value.int .i64) ++ (zs.drop m).map (Value.int .i64) := by rw [← List.map_append, List.take_append_drop]
  unfold NRow at h ⊢
  rw [hm, e] at h
  rw [hl]
  exact ownsRow_pop (by rw [List.length_map, hl, Nat.mul_one]) h
set_option maxRecDepth 100000 in
set_option maxHeartbeats 4000000 in
theorem takeID_free (m : Nat) (hm : s.free.length = m + 1) (hml : m ≤ 1000) (h : GmE base w p s was) :
    Calls Try.prog 84 #[.pointer (some ⟨p, 0, none⟩)] w fun e w' => e = .returned (.tuple #[.int .i64 (fld s.free m), .bool true]) ∧ GmE base w' p { s with free := s.free.take m } was ∧ Below base w w' ∧ Fr w w' p := by
  obtain ⟨ev, fv, bv, B, h⟩ := h
  obtain ⟨fa, c, rfl, hcap, hnums, hg0⟩ := h.fr.open
  obtain ⟨gf, rfl, hbg, hgl⟩ := hg0 (by omega)
  obtain ⟨b', o', hbo, lm⟩ := hnums.at (i := m) (by omega)
  cases hbo
  rw [Nat.zero_add] at lm
  have hlt := h.lt
  have hbp := h.bp
  obtain ⟨c0, c1, c2, c3, c4, c5, c6, c7⟩ := h.eight
  have f4 := h.frozen 4
  have hG3 : Gm base (w.setCell ⟨p, 4, none⟩ (.slice (some ⟨gf, 0, none⟩) m c)) p ev (.slice (some ⟨gf, 0, none⟩) m c) bv B { s with free := s.free.take m } was := h.pset 4 (.slice (some ⟨gf, 0, none⟩) m c) rfl h.er (nrow_pop h.fr hm) h.br h.fb
  have hG2 : GmE base (w.setCell ⟨p, 4, none⟩ (.slice (some ⟨gf, 0, none⟩) m c)) p { s with free := s.free.take m } was :=
    ⟨ev, .slice (some ⟨gf, 0, none⟩) m c, bv, B, hG3⟩
  have HFr : Hid (Fr w (w.setCell ⟨p, 4, none⟩ (.slice (some ⟨gf, 0, none⟩) m c)) p) := h.setFrame hG3 rfl rfl rfl
  clear hG3
  have HG2 := hid hG2
  have HB : Hid (Below base w (w.setCell ⟨p, 4, none⟩ (.slice (some ⟨gf, 0, none⟩) m c))) := (Below.refl _ w).setCell (p := ⟨p, 4, none⟩) hbp _
  rw [hm] at c4 hcap
  have hcz : (m : Int) ≤ (c : Int) := by omega
  clear h hnums hg0 hG2 c0 c1 c2 c3 c5 c6 c7 hm
  go_enter Try.func84, Try.ntmps84
  go_wp2
  go_ret2
  exact ⟨rfl, HG2.out, HB.out, HFr.out⟩
set_option maxRecDepth 100000 in
set_option maxHeartbeats 4000000 in
theorem takeID_next (hm : s.free = []) (hnx : s.nx ≤ 200) (hn0 : 0 ≤ s.nx) (h : GmE base w p s was) :
    Calls Try.prog 84 #[.pointer (some ⟨p, 0, none⟩)] w fun e w' => e = .returned (.tuple #[.int .i64 s.nx, .bool true]) ∧ GmE base w' p { s with nx := s.nx + 1 } was ∧ Below base w w' ∧ Fr w w' p := by
  obtain ⟨ev, fv, bv, B, h⟩ := h
  obtain ⟨fa, c, rfl, hcap, hnums, hg0⟩ := h.fr.open
  have hlt := h.lt
  have hbp := h.bp
  obtain ⟨c0, c1, c2, c3, c4, c5, c6, c7⟩ := h.eight
  have f3 := h.frozen 3
  have hG3 := h.pset 3 (.int .i64 (s.nx + 1)) (s' := { s with nx := s.nx + 1 }) rfl h.er h.fr h.br h.fb
  have hG2 : GmE base (w.setCell ⟨p, 3, none⟩ (.int .i64 (s.nx + 1))) p { s with nx := s.nx + 1 } was := ⟨ev, _, bv, B, hG3⟩
  have HFr : Hid (Fr w (w.setCell ⟨p, 3, none⟩ (.int .i64 (s.nx + 1))) p) := h.setFrame hG3 rfl rfl rfl
  clear hG3
  have HG2 := hid hG2
  have HB : Hid (Below base w (w.setCell ⟨p, 3, none⟩ (.int .i64 (s.nx + 1)))) := (Below.refl _ w).setCell (p := ⟨p, 3, none⟩) hbp _
  rw [hm] at c4
  simp only [List.length_nil] at c4
  clear h hnums hg0 hG2 c0 c1 c2 c5 c6 c7 hm hcap
  go_enter Try.func84, Try.ntmps84
  go_wp2
  go_ret2
  exact ⟨rfl, HG2.out, HB.out, HFr.out⟩
set_option maxRecDepth 100000 in
set_option maxHeartbeats 4000000 in
theorem takeID_none (hm : s.free = []) (hnx : 200 < s.nx) (h : GmE base w p s was) :
    Calls Try.prog 84 #[.pointer (some ⟨p, 0, none⟩)] w fun e w' => e = .returned (.tuple #[.int .i64 0, .bool false]) ∧ w' = w := by
  obtain ⟨ev, fv, bv, B, h⟩ := h
  obtain ⟨fa, c, rfl, hcap, hnums, hg0⟩ := h.fr.open
  have hlt := h.lt
  obtain ⟨c0, c1, c2, c3, c4, c5, c6, c7⟩ := h.eight
  rw [hm] at c4
  simp only [List.length_nil] at c4
  clear h hnums hg0 c0 c1 c2 c5 c6 c7 hm hcap
  go_enter Try.func84, Try.ntmps84
  go_wp2
  go_ret2
  exact ⟨rfl, rfl⟩
end
end Go.Proofs.Ytgiieepfhohmhab
namespace Go.Proofs.Ytgiieepfhohmhab
open Go.RowKit Go.Maps
section
variable {base : Nat} {w : World} {p : Nat} {uv fv bv : Value} {nw : Bool} {s : St}
end
end Go.Proofs.Ytgiieepfhohmhab
namespace Go.Proofs.Ytgiieepfhohmhab
open Go.RowKit
end Go.Proofs.Ytgiieepfhohmhab

/- Rows of records and of numbers that a call owns: their cells, and what a store does to them. -/
import Derived.Maps.AppendAt
import Derived.Laws.AppendOwnNone
import Derived.Laws.CopyOwn
import Derived.WalkSmall
import Derived.Deep.RegionLaw
import Derived.Test.YtcbalhicaipmlaaGreatRRulA
import Derived.Test.YtcbalhicaipmlaaGreatRElB
namespace Go.Proofs.YtcbalhicaipmlaaGreat
open Go.RowKit Go.Maps
def updR (k : Nat) (u : List Int) (j : Nat) (v : Int) : List Int := (List.range k).map (fun q => if q = j then v else fld u q)
theorem fld_updR {k : Nat} (u : List Int) (j : Nat) (v : Int) {q : Nat} (h : q < k) : fld (updR k u j v) q = if q = j then v else fld u q := by
  simp [fld, updR, List.getD_eq_getElem?_getD, h]
theorem rec_set {rs : List (List Int)} {i : Nat} {x : List Int} {q : Nat} (h : q < rs.length) : rec (rs.set i x) q = if q = i then x else rec rs q := by
  by_cases e : q = i
  · subst e
    simp [rec, List.getD_eq_getElem?_getD, h]
  · have : ¬ i = q := fun h => e h.symm
    simp [rec, List.getD_eq_getElem?_getD, this, e]
def recL (k : Nat) (u : List Int) : List Value := (List.range k).map (fun j => Value.int .i64 (fld u j))
def flat (k : Nat) (es : List (List Int)) : List Value := es.flatMap (recL k)
theorem recL_length (k : Nat) (u : List Int) : (recL k u).length = k := by simp [recL]
theorem recL_get {k j : Nat} (u : List Int) (h : j < k) : (recL k u)[j]? = some (.int .i64 (fld u j)) := by simp [recL, h]
theorem flat_cons (k : Nat) (u : List Int) (es : List (List Int)) : flat k (u :: es) = recL k u ++ flat k es := rfl
theorem flat_append (k : Nat) (a b : List (List Int)) : flat k (a ++ b) = flat k a ++ flat k b := by simp [flat]
theorem flat_length (k : Nat) (es : List (List Int)) : (flat k es).length = es.length * k := by
  induction es with
  | nil => simp [flat]
  | cons u es ih => rw [flat_cons, List.length_append, ih, recL_length, List.length_cons, Nat.succ_mul]; omega
theorem flat_get {k j : Nat} (h : j < k) (es : List (List Int)) (i : Nat) : (flat k es)[i * k + j]? = if i < es.length then some (.int .i64 (fld (rec es i) j)) else none := by
  induction es generalizing i with
  | nil => simp [flat]
  | cons u es ih =>
    rw [flat_cons]
    cases i with
    | zero =>
      rw [Nat.zero_mul, Nat.zero_add, List.getElem?_append_left (by rw [recL_length]; exact h), recL_get u h]
      simp [rec]
    | succ i =>
      rw [List.getElem?_append_right (by rw [recL_length, Nat.succ_mul]; omega), recL_length]
      have e : (i + 1) * k + j - k = i * k + j := by rw [Nat.succ_mul]; omega
      rw [e, ih i]
      simp [rec]
theorem flat_one (es : List (List Int)) (k : Nat) : ∀ v ∈ flat k es, v.oneCell' = true := by
  intro v hv
  simp only [flat, recL, List.mem_flatMap, List.mem_map] at hv
  obtain ⟨u, _, j, _, rfl⟩ := hv
  rfl
theorem flat_set {k i j : Nat} (v : Int) (hj : j < k) (es : List (List Int)) (hi : i < es.length) : (flat k es).set (i * k + j) (.int .i64 v) = flat k (es.set i (updR k (rec es i) j v)) := by
  have hk : 0 < k := by omega
  apply List.ext_getElem?
  intro m
  have hm : m = (m / k) * k + m % k := by rw [Nat.mul_comm]; exact (Nat.div_add_mod m k).symm
  have hmk : m % k < k := Nat.mod_lt _ hk
  generalize m / k = q at hm
  generalize m % k = r at hm hmk
  subst hm
  rw [List.getElem?_set, flat_get hmk, flat_get hmk, List.length_set, flat_length]
  by_cases hq : q < es.length
  · rw [if_pos hq, if_pos hq, rec_set hq]
    by_cases e : i * k + j = q * k + r
    · have e1 : i = q := by
        rcases Nat.lt_trichotomy i q with h | h | h
        · have := Nat.mul_le_mul_right k (show i + 1 ≤ q from h)
          rw [Nat.succ_mul] at this
          omega
        · exact h
        · have := Nat.mul_le_mul_right k (show q + 1 ≤ i from h)
          rw [Nat.succ_mul] at this
          omega
      subst e1
      have e2 : j = r := by omega
      subst e2
      have hlt : i * k + j < es.length * k := by
        have := Nat.mul_le_mul_right k (show i + 1 ≤ es.length from hi)
        rw [Nat.succ_mul] at this
        omega
      rw [if_pos rfl, if_pos hlt, if_pos rfl, fld_updR _ _ _ hj, if_pos rfl]
    · rw [if_neg e]
      by_cases e1 : q = i
      · subst e1
        have e2 : ¬ r = j := fun h => e (by rw [h])
        rw [if_pos rfl, fld_updR _ _ _ hmk, if_neg e2]
      · rw [if_neg e1]
  · rw [if_neg hq, if_neg hq]
    by_cases e : i * k + j = q * k + r
    · have := Nat.mul_le_mul_right k (show i + 1 ≤ q by omega)
      rw [Nat.succ_mul] at this
      omega
    · rw [if_neg e]
def Row (base : Nat) (w : World) (v : Value) (es : List (List Int)) : Prop := w.ownsRow base 119 10 v es.length (flat 10 es)
def NRow (base : Nat) (w : World) (v : Value) (zs : List Int) : Prop := w.ownsRow base 3 1 v zs.length (zs.map (Value.int .i64))
theorem Row.open {base : Nat} {w : World} {v : Value} {es : List (List Int)} (h : Row base w v es) : ∃ ea c, v = .slice ea es.length c ∧ es.length ≤ c ∧ Recs w ea 10 es ∧ (0 < es.length → ∃ g, ea = some ⟨g, 0, none⟩ ∧ base ≤ g ∧ g < w.heap.size) := by
  have h' := h
  rcases h.2 with ⟨rfl, h0⟩ | ⟨g, cap, cur, rfl, hb, hg, hn, hm, hs, ht⟩
  · refine ⟨none, 0, by rw [h0], by omega, Or.inl (List.eq_nil_of_length_eq_zero h0), fun h => by omega⟩
  · refine ⟨some ⟨g, 0, none⟩, cap, rfl, hn, Or.inr ⟨g, 0, rfl, fun i hi j hj => ?_⟩, fun _ => ⟨g, rfl, hb, (Array.getElem?_eq_some_iff.1 hg).1⟩⟩
    have hlt : i * 10 + j < es.length * 10 := by omega
    rw [Nat.zero_add, World.ownsRow.cellAt h' _ hlt, flat_get hj, if_pos hi]
theorem NRow.open {base : Nat} {w : World} {v : Value} {zs : List Int} (h : NRow base w v zs) : ∃ ea c, v = .slice ea zs.length c ∧ zs.length ≤ c ∧ Nums w ea zs ∧ (0 < zs.length → ∃ g, ea = some ⟨g, 0, none⟩ ∧ base ≤ g ∧ g < w.heap.size) := by
  have h' := h
  rcases h.2 with ⟨rfl, h0⟩ | ⟨g, cap, cur, rfl, hb, hg, hn, hm, hs, ht⟩
  · refine ⟨none, 0, by rw [h0], by omega, Or.inl (List.eq_nil_of_length_eq_zero h0), fun h => by omega⟩
  · refine ⟨some ⟨g, 0, none⟩, cap, rfl, hn, Or.inr ⟨g, 0, rfl, fun i hi => ?_⟩, fun _ => ⟨g, rfl, hb, (Array.getElem?_eq_some_iff.1 hg).1⟩⟩
    rw [Nat.zero_add, World.ownsRow.cellAt h' _ (by omega), List.getElem?_map]
    simp [fld, List.getD_eq_getElem?_getD, hi]
theorem Row.put {base : Nat} {w : World} {g n c : Nat} {es : List (List Int)} (h : Row base w (.slice (some ⟨g, 0, none⟩) n c) es) {i j : Nat} (hi : i < es.length) (hj : j < 10) (v : Int) :
    Row base (w.setCell ⟨g, i * 10 + j, none⟩ (.int .i64 v)) (.slice (some ⟨g, 0, none⟩) n c) (es.set i (updR 10 (rec es i) j v)) := by
  have hn : n = es.length := by
    rcases h.2 with ⟨h', _⟩ | ⟨g', cap', cur, h', _⟩
    · cases h'
    · cases h'; rfl
  subst hn
  unfold Row
  rw [List.length_set, ← flat_set v hj es hi]
  exact (World.ownsRow.stored h (i * 10 + j) (.int .i64 v)).1
theorem row_below {w w' : World} {base : Nat} {e : TypeId} {size : Nat} {v : Value} {n : Nat} {xs : List Value} (h : w.ownsRow base e size v n xs) (hb : Below w.heap.size w w') : w'.ownsRow base e size v n xs := by
  refine ⟨h.1, ?_⟩
  rcases h.2 with hn | ⟨g, cap, cur, rfl, hbg, hgg, rest⟩
  · exact .inl hn
  · exact .inr ⟨g, cap, cur, rfl, hbg, (hb.block g (Array.getElem?_eq_some_iff.1 hgg).1).trans hgg, rest⟩
theorem row_other {w w' : World} {base : Nat} {e : TypeId} {size : Nat} {v : Value} {n : Nat} {xs : List Value} (h : w.ownsRow base e size v n xs) (hb : ∀ g, v.ownBlock = some g → w'.heap[g]? = w.heap[g]?) : w'.ownsRow base e size v n xs := by
  refine ⟨h.1, ?_⟩
  rcases h.2 with hn | ⟨g, cap, cur, rfl, hbg, hgg, rest⟩
  · exact .inl hn
  · exact .inr ⟨g, cap, cur, rfl, hbg, (hb g rfl).trans hgg, rest⟩
end Go.Proofs.YtcbalhicaipmlaaGreat
namespace Go.Proofs.YtcbalhicaipmlaaGreat
open Go.RowKit Go.Maps
structure St where
  t : Int
  g0 : Int
  g1 : Int
  nx : Int
  free : List Int
  es : List (List Int)
  born : List Int
theorem row_ne {w : World} {base : Nat} {e : TypeId} {size : Nat} {v : Value} {n : Nat} {xs : List Value} (h : w.ownsRow base e size v n xs) {p : Nat} {c : Array Value} {t : TypeId} {fz : Nat × Nat} (hp : w.heap[p]? = some (.cells c t fz)) (ht : t ≠ e) : v.ownBlock ≠ some p := by
  intro hv
  rcases h.2 with ⟨rfl, _⟩ | ⟨g, cap, cur, rfl, hbg, hgg, rest⟩
  · cases hv
  · simp only [Value.ownBlock, Option.some.injEq] at hv
    subst hv
    rw [hgg] at hp
    simp only [Option.some.injEq, Obj.cells.injEq] at hp
    exact ht hp.2.1.symm
section
variable {base : Nat} {w : World} {p : Nat} {ev fv bv : Value} {B : Nat} {s : St} {was : Int → Int}
end
end Go.Proofs.YtcbalhicaipmlaaGreat
namespace Go.Proofs.YtcbalhicaipmlaaGreat
open Go.RowKit Go.Maps
abbrev zeroEnt : Value := .agg #[.int .i64 0, .int .i64 0, .int .i64 0, .int .i64 0, .int .i64 0, .int .i64 0, .int .i64 0, .int .i64 0, .int .i64 0, .int .i64 0]
theorem info_ent : (Tryz.prog.info? 119).map (fun i => (i.zero, i.size, i.bytes)) = some (some zeroEnt, 10, 80) := by kernel_rfl
theorem info_int : (Tryz.prog.info? 3).map (fun i => (i.zero, i.size, i.bytes)) = some (some (.int .i64 0), 1, 8) := by kernel_rfl
theorem ints_one (zs : List Int) : ∀ v ∈ zs.map (Value.int .i64), v.oneCell' = true := by
  intro v hv
  obtain ⟨z, _, rfl⟩ := List.mem_map.1 hv
  rfl
theorem add_off (b o j : Nat) : (⟨b, o, none⟩ : Addr).add j = ⟨b, o + j, none⟩ := by unfold Addr.add; split <;> simp_all
theorem flat_src {w : World} {b o : Nat} {xs : List (List Int)} (h : ∀ i, i < xs.length → ∀ j, j < 10 → w.cell? ⟨b, o + i * 10 + j, none⟩ = some (.int .i64 (fld (rec xs i) j))) : ∀ j u, (flat 10 xs)[j]? = some u → w.cell? ((⟨b, o, none⟩ : Addr).add j) = some u := by
  intro m u hm
  have e : m = (m / 10) * 10 + m % 10 := by omega
  have hr : m % 10 < 10 := Nat.mod_lt _ (by omega)
  generalize m / 10 = q at e
  generalize m % 10 = r at e hr
  subst e
  rw [flat_get hr] at hm
  split at hm
  next hq =>
    rw [add_off, ← Nat.add_assoc, h q hq r hr]
    exact hm
  · cases hm
theorem rowRun (w : World) (base : Nat) (ty : TypeId) (v : Value) (es : List (List Int)) (hown : Row base w v es) (xa : Option Addr) (xc : Nat) (xs : List (List Int)) (hx : Recs w xa 10 xs) (hnil : xa = none → xc = 0)
    (hlen : es.length + xs.length ≤ 100000) (hbase : base ≤ w.heap.size) :
    ∃ v' w', (Builtin.append_ #[24, 24] ty #[v, .slice xa xs.length xc]).run Tryz.prog w = .ok v' w' ∧ Row base w' v' (es ++ xs) ∧ w.grownBy w' v.ownBlock ∧ (v'.ownBlock = v.ownBlock ∨ v'.ownBlock = some w.heap.size) := by
  obtain ⟨i0, hi, hz0, hz1, hz2⟩ := info_parts info_ent
  rcases xa with _ | ad
  · have hx0 : xs = [] := by
      rcases hx with h | ⟨b, o, h, _⟩
      · exact h
      · cases h
    subst hx0
    rw [hnil rfl]
    have hrun := run_append_owned_none (P := Tryz.prog) (w := w) base 24 ty 119 i0 10 Tryz.underlying24 hi v _ _ hown
    refine ⟨v, w, hrun, by rw [List.append_nil]; exact hown, ⟨rfl, rfl, rfl, Nat.le_refl _, fun _ _ _ => rfl⟩, Or.inl rfl⟩
  · have hsrc : ∀ j u, (flat 10 xs)[j]? = some u → w.cell? (ad.add j) = some u := by
      rcases hx with h | ⟨b', o', h, hc⟩
      · subst h
        intro j u hj
        simp [flat] at hj
      · cases h
        exact flat_src hc
    obtain ⟨v', w', hr, h2, h3, h4, h5⟩ := run_append_own_at (P := Tryz.prog) w base 24 ty 119 i0 zeroEnt 10 80 Tryz.underlying24 hi hz0 hz1 hz2 rfl (by decide) v _ _ hown ad xs.length xc (flat 10 xs) (flat_length 10 xs) hsrc (flat_one xs 10) (by unfold maxLen; omega) (by omega) hbase
    refine ⟨v', w', hr, ?_, h3, h5⟩
    unfold Row
    rw [List.length_append, flat_append]
    exact h2
theorem numRun (w : World) (base : Nat) (ty : TypeId) (v : Value) (zs : List Int) (hown : NRow base w v zs) (xa : Option Addr) (xc : Nat) (xs : List Int) (hx : Nums w xa xs) (hnil : xa = none → xc = 0)
    (hlen : zs.length + xs.length ≤ 100000) (hbase : base ≤ w.heap.size) :
    ∃ v' w', (Builtin.append_ #[23, 23] ty #[v, .slice xa xs.length xc]).run Tryz.prog w = .ok v' w' ∧ NRow base w' v' (zs ++ xs) ∧ w.grownBy w' v.ownBlock ∧ (v'.ownBlock = v.ownBlock ∨ v'.ownBlock = some w.heap.size) := by
  obtain ⟨i0, hi, hz0, hz1, hz2⟩ := info_parts info_int
  rcases xa with _ | ad
  · have hx0 : xs = [] := by
      rcases hx with h | ⟨b, o, h, _⟩
      · exact h
      · cases h
    subst hx0
    rw [hnil rfl]
    have hrun := run_append_owned_none (P := Tryz.prog) (w := w) base 23 ty 3 i0 1 Tryz.underlying23 hi v _ _ hown
    refine ⟨v, w, hrun, by rw [List.append_nil]; exact hown, ⟨rfl, rfl, rfl, Nat.le_refl _, fun _ _ _ => rfl⟩, Or.inl rfl⟩
  · have hsrc : ∀ j u, (xs.map (Value.int .i64))[j]? = some u → w.cell? (ad.add j) = some u := by
      rcases hx with h | ⟨b', o', h, hc⟩
      · subst h
        intro j u hj
        simp at hj
      · cases h
        intro j u hj
        rw [List.getElem?_map] at hj
        by_cases hl : j < xs.length
        · rw [add_off, hc j hl]
          simp [fld, List.getD_eq_getElem?_getD, hl] at hj ⊢
          exact hj
        · simp [hl] at hj
    obtain ⟨v', w', hr, h2, h3, h4, h5⟩ := run_append_own_at (P := Tryz.prog) w base 23 ty 3 i0 (.int .i64 0) 1 8 Tryz.underlying23 hi hz0 hz1 hz2 rfl (by decide) v _ _ hown ad xs.length xc (xs.map (Value.int .i64)) (by simp) hsrc (ints_one xs) (by unfold maxLen; omega) (by omega) hbase
    refine ⟨v', w', hr, ?_, h3, h5⟩
    unfold NRow
    rw [List.length_append, List.map_append]
    exact h2
theorem wp_rows {ops : Array Oper} {rest : List Oper} {o : Oper} {a : Act} {Q : Exit → Act → World → Prop} (w : World) (hgd : o.guard = none) (s x : Operand)
    (ho : o.op = .call { callee := .builtin .append, args := #[s, x], argTypes := #[24, 24] }) (base : Nat) (v : Value) (es : List (List Int)) (hs : a.eval s = v) (hown : Row base w v es)
    (xa : Option Addr) (xc : Nat) (xs : List (List Int)) (hxe : a.eval x = .slice xa xs.length xc) (hx : Recs w xa 10 xs) (hnil : xa = none → xc = 0) (hlen : es.length + xs.length ≤ 100000) (hbase : base ≤ w.heap.size)
    (h : ∀ v' w', Row base w' v' (es ++ xs) → w.grownBy w' v.ownBlock → (v'.ownBlock = v.ownBlock ∨ v'.ownBlock = some w.heap.size) → wpList Tryz.prog ops Q rest (a.put o.dst v') w') : wpList Tryz.prog ops Q (o :: rest) a w := by
  refine wpList_plain hgd fun K hK => ?_
  obtain ⟨v', w', hr, h2, h3, h4⟩ := rowRun w base o.type v es hown xa xc xs hx hnil hlen hbase
  unfold Oper.wp execOp
  simp only [ho, resolve, invoke, builtin, Sem.run_bind, Sem.run_pure, Result.andThen_ok, List.map_toArray, List.map_cons, List.map_nil, hs, hxe, hr]
  exact hK _ _ (h v' w' h2 h3 h4)
theorem step_rows {ops : Array Oper} {o : Oper} {a : Act} {w : World} {K : Act → World → Prop} {Q : Exit → Act → World → Prop} {E : Prop} (hgd : o.guard = none) (s x : Operand)
    (ho : o.op = .call { callee := .builtin .append, args := #[s, x], argTypes := #[24, 24] }) (base : Nat) (v : Value) (es : List (List Int)) (hs : a.eval s = v) (hown : Row base w v es)
    (xa : Option Addr) (xc : Nat) (xs : List (List Int)) (hxe : a.eval x = .slice xa xs.length xc) (hx : Recs w xa 10 xs) (hnil : xa = none → xc = 0) (hlen : es.length + xs.length ≤ 100000) (hbase : base ≤ w.heap.size)
    (h : ∀ v' w', Row base w' v' (es ++ xs) → w.grownBy w' v.ownBlock → (v'.ownBlock = v.ownBlock ∨ v'.ownBlock = some w.heap.size) → K (a.put o.dst v') w') :
    if Region.wanted o (yielded ops a.tmps) = true then Oper.wp Tryz.prog o a w K Q else E := by
  have hw : Region.wanted o (yielded ops a.tmps) = true := by simp [Region.wanted, hgd]
  rw [if_pos hw]
  obtain ⟨v', w', hr, h2, h3, h4⟩ := rowRun w base o.type v es hown xa xc xs hx hnil hlen hbase
  unfold Oper.wp execOp
  simp only [ho, resolve, invoke, builtin, Sem.run_bind, Sem.run_pure, Result.andThen_ok, List.map_toArray, List.map_cons, List.map_nil, hs, hxe, hr]
  exact h v' w' h2 h3 h4
theorem step_nums {ops : Array Oper} {o : Oper} {a : Act} {w : World} {K : Act → World → Prop} {Q : Exit → Act → World → Prop} {E : Prop} (hgd : o.guard = none) (s x : Operand)
    (ho : o.op = .call { callee := .builtin .append, args := #[s, x], argTypes := #[23, 23] }) (base : Nat) (v : Value) (es : List Int) (hs : a.eval s = v) (hown : NRow base w v es)
    (xa : Option Addr) (xc : Nat) (xs : List Int) (hxe : a.eval x = .slice xa xs.length xc) (hx : Nums w xa xs) (hnil : xa = none → xc = 0) (hlen : es.length + xs.length ≤ 100000) (hbase : base ≤ w.heap.size)
    (h : ∀ v' w', NRow base w' v' (es ++ xs) → w.grownBy w' v.ownBlock → (v'.ownBlock = v.ownBlock ∨ v'.ownBlock = some w.heap.size) → K (a.put o.dst v') w') :
    if Region.wanted o (yielded ops a.tmps) = true then Oper.wp Tryz.prog o a w K Q else E := by
  have hw : Region.wanted o (yielded ops a.tmps) = true := by simp [Region.wanted, hgd]
  rw [if_pos hw]
  obtain ⟨v', w', hr, h2, h3, h4⟩ := numRun w base o.type v es hown xa xc xs hx hnil hlen hbase
  unfold Oper.wp execOp
  simp only [ho, resolve, invoke, builtin, Sem.run_bind, Sem.run_pure, Result.andThen_ok, List.map_toArray, List.map_cons, List.map_nil, hs, hxe, hr]
  exact h v' w' h2 h3 h4
end Go.Proofs.YtcbalhicaipmlaaGreat
namespace Go.Proofs.YtcbalhicaipmlaaGreat
open Go.RowKit Go.Maps
theorem row_set {w : World} {base : Nat} {e : TypeId} {size : Nat} {v : Value} {n : Nat} {xs : List Value} (h : w.ownsRow base e size v n xs) {b : Nat} (hne : v.ownBlock ≠ some b) (j : Nat) (u : Value) : (w.setCell ⟨b, j, none⟩ u).ownsRow base e size v n xs :=
  row_other h fun g hg => heap_setCell_other w ⟨b, j, none⟩ g u (fun e => hne (by rw [hg, e]))
end Go.Proofs.YtcbalhicaipmlaaGreat
namespace Go.Proofs.YtcbalhicaipmlaaGreat
open Go.RowKit Go.Maps
theorem Counts.run {w : World} {B n : Nat} {f : Int → Int} (h : Counts w B n f) (hn : n ≤ 100000) {id c : Int} (hwf : (Lit.int .i64 id).wf = true) (hwc : (Lit.int .i64 c).wf = true) :
    ∃ w', (Instr.mapUpdate 187 (.map (some B)) (.int .i64 id) (.int .i64 c)).run Tryz.prog w = .ok () w' ∧ Counts w' B (n + 1) (updZ f id c) ∧ w.grownBy w' (some B) := by
  obtain ⟨D, h1, h2, h3⟩ := h
  obtain ⟨w', hr, ho, hg⟩ := h1.update intKey Tryz.underlying187 (by unfold maxLen; omega) (keyOf_int_mk Tryz.underlying3 hwf) (plainElem_int Tryz.underlying3 hwc)
  refine ⟨w', hr, ⟨_, ho, h2.put _ _, fun j hj => ?_⟩, hg⟩
  by_cases e : j = id
  · rw [e, atKey_put_same h2 (by trivial), updZ_same]
  · rw [atKey_put_other (by intro h; exact e (by simpa using h)), updZ_other _ _ e]
    exact h3 j hj
end Go.Proofs.YtcbalhicaipmlaaGreat
namespace Go.Proofs.YtcbalhicaipmlaaGreat
open Go.RowKit Go.Maps
section
variable {base : Nat} {w : World} {p : Nat} {fv bv : Value} {B : Nat} {s : St} {was : Int → Int}
end
theorem Row.ten {base : Nat} {w : World} {g n c : Nat} {es : List (List Int)} (h : Row base w (.slice (some ⟨g, 0, none⟩) n c) es) {i : Nat} (hi : i < es.length) :
    (∀ j, j < 10 → w.cell? ⟨g, i * 10 + j, none⟩ = some (.int .i64 (fld (rec es i) j))) ∧ (∀ j, w.frozen? ⟨g, j, none⟩ = false) := by
  have hn : n = es.length := by
    rcases h.2 with ⟨h', _⟩ | ⟨g', cap', cur, h', _⟩
    · cases h'
    · cases h'; rfl
  subst hn
  refine ⟨fun j hj => ?_, fun j => World.ownsRow.frozenAt h j⟩
  have hlt : i * 10 + j < es.length * 10 := by omega
  rw [World.ownsRow.cellAt h _ hlt, flat_get hj, if_pos hi]
end Go.Proofs.YtcbalhicaipmlaaGreat
namespace Go.Proofs.YtcbalhicaipmlaaGreat
open Go.RowKit Go.Maps
def Apart (w : World) (p k : Nat) : Prop := k ≠ p ∧ ∀ j v, w.cell? ⟨p, j, none⟩ = some v → v.ownBlock ≠ some k ∧ v ≠ .map (some k)
def Fr (w w' : World) (p : Nat) : Prop := w.heap.size ≤ w'.heap.size ∧ ∀ k, k < w.heap.size → Apart w p k → w'.heap[k]? = w.heap[k]? ∧ Apart w' p k
theorem Fr.trans {a b c : World} {p : Nat} (h : Fr a b p) (g : Fr b c p) : Fr a c p :=
  ⟨Nat.le_trans h.1 g.1, fun k hk ha => by
    obtain ⟨h1, h2⟩ := h.2 k hk ha
    obtain ⟨g1, g2⟩ := g.2 k (Nat.lt_of_lt_of_le hk h.1) h2
    exact ⟨g1.trans h1, g2⟩⟩
theorem Fr.below {w w' : World} {p : Nat} (hb : Below w.heap.size w w') (hp : p < w.heap.size) : Fr w w' p :=
  ⟨hb.size, fun k hk ha => ⟨hb.block k hk, ha.1, fun j v hv => ha.2 j v (by rw [← hv]; exact (hb.cell (p := ⟨p, j, none⟩) hp).symm)⟩⟩
section
variable (base p : Nat) (s : St) (was : Int → Int) (w : World)
end
end Go.Proofs.YtcbalhicaipmlaaGreat
namespace Go.Proofs.YtcbalhicaipmlaaGreat
open Go.RowKit Go.Maps
def RowU (base : Nat) (w : World) (v : Value) (us : List (List Int)) : Prop := w.ownsRow base 121 11 v us.length (flat 11 us)
theorem RowU.open {base : Nat} {w : World} {v : Value} {us : List (List Int)} (h : RowU base w v us) : ∃ ea c, v = .slice ea us.length c ∧ us.length ≤ c ∧ Recs w ea 11 us ∧ (0 < us.length → ∃ g, ea = some ⟨g, 0, none⟩ ∧ base ≤ g ∧ g < w.heap.size) := by
  have h' := h
  rcases h.2 with ⟨rfl, h0⟩ | ⟨g, cap, cur, rfl, hb, hg, hn, hm, hs, ht⟩
  · refine ⟨none, 0, by rw [h0], by omega, Or.inl (List.eq_nil_of_length_eq_zero h0), fun h => by omega⟩
  · refine ⟨some ⟨g, 0, none⟩, cap, rfl, hn, Or.inr ⟨g, 0, rfl, fun i hi j hj => ?_⟩, fun _ => ⟨g, rfl, hb, (Array.getElem?_eq_some_iff.1 hg).1⟩⟩
    have hlt : i * 11 + j < us.length * 11 := by omega
    rw [Nat.zero_add, World.ownsRow.cellAt h' _ hlt, flat_get hj, if_pos hi]
theorem RowU.put {base : Nat} {w : World} {g n c : Nat} {us : List (List Int)} (h : RowU base w (.slice (some ⟨g, 0, none⟩) n c) us) {i j : Nat} (hi : i < us.length) (hj : j < 11) (v : Int) :
    RowU base (w.setCell ⟨g, i * 11 + j, none⟩ (.int .i64 v)) (.slice (some ⟨g, 0, none⟩) n c) (us.set i (updR 11 (rec us i) j v)) := by
  have hn : n = us.length := by
    rcases h.2 with ⟨h', _⟩ | ⟨g', cap', cur, h', _⟩
    · cases h'
    · cases h'; rfl
  subst hn
  unfold RowU
  rw [List.length_set, ← flat_set v hj us hi]
  exact (World.ownsRow.stored h (i * 11 + j) (.int .i64 v)).1
theorem RowU.cells {base : Nat} {w : World} {g n c : Nat} {us : List (List Int)} (h : RowU base w (.slice (some ⟨g, 0, none⟩) n c) us) {i : Nat} (hi : i < us.length) :
    (∀ j, j < 11 → w.cell? ⟨g, i * 11 + j, none⟩ = some (.int .i64 (fld (rec us i) j))) ∧ (∀ j, w.frozen? ⟨g, j, none⟩ = false) := by
  have hn : n = us.length := by
    rcases h.2 with ⟨h', _⟩ | ⟨g', cap', cur, h', _⟩
    · cases h'
    · cases h'; rfl
  subst hn
  refine ⟨fun j hj => ?_, fun j => World.ownsRow.frozenAt h j⟩
  have hlt : i * 11 + j < us.length * 11 := by omega
  rw [World.ownsRow.cellAt h _ hlt, flat_get hj, if_pos hi]
abbrev refC (nw : Bool) (s : St) (fv uv bv : Value) : Array Value := #[.bool nw, .int .i64 s.t, .int .i64 s.g0, .int .i64 s.g1, .int .i64 s.nx, fv, uv, bv]
structure Gr (base : Nat) (w : World) (p : Nat) (uv fv bv : Value) (nw : Bool) (s : St) : Prop where
  hp : w.heap[p]? = some (.cells (refC nw s fv uv bv) 136)
  er : RowU base w uv s.es
  fr : NRow base w fv s.free
  br : NRow base w bv s.born
  bp : base ≤ p
  fb : fv.ownBlock = none ∨ fv.ownBlock ≠ bv.ownBlock
section
variable {base : Nat} {w : World} {p : Nat} {uv fv bv : Value} {nw : Bool} {s : St}
theorem Gr.lt (h : Gr base w p uv fv bv nw s) : p < w.heap.size := (Array.getElem?_eq_some_iff.1 h.hp).1
theorem Gr.below {w' : World} (h : Gr base w p uv fv bv nw s) (hb : Below w.heap.size w w') : Gr base w' p uv fv bv nw s :=
  ⟨(hb.block p h.lt).trans h.hp, row_below h.er hb, row_below h.fr hb, row_below h.br hb, h.bp, h.fb⟩
theorem Gr.cell (h : Gr base w p uv fv bv nw s) (j : Nat) : w.cell? ⟨p, j, none⟩ = (refC nw s fv uv bv)[j]? := cell_of_row w p j _ _ _ h.hp
theorem Gr.frozen (h : Gr base w p uv fv bv nw s) (j : Nat) : w.frozen? ⟨p, j, none⟩ = false := frozen_of_row w p j _ _ h.hp
theorem Gr.pset (h : Gr base w p uv fv bv nw s) (j : Nat) (v : Value) {s' : St} {uv' fv' bv' : Value} (harr : (refC nw s fv uv bv).setIfInBounds j v = refC nw s' fv' uv' bv')
    (er : RowU base w uv' s'.es) (fr : NRow base w fv' s'.free) (br : NRow base w bv' s'.born) (fb : fv'.ownBlock = none ∨ fv'.ownBlock ≠ bv'.ownBlock) : Gr base (w.setCell ⟨p, j, none⟩ v) p uv' fv' bv' nw s' := by
  have ho : ∀ k, k ≠ p → (w.setCell ⟨p, j, none⟩ v).heap[k]? = w.heap[k]? := fun k hk => heap_setCell_other w ⟨p, j, none⟩ k v (fun e => hk e)
  refine ⟨?_, ?_, ?_, ?_, h.bp, fb⟩
  · rw [← harr]
    exact heap_setCell_same w p j _ _ v h.hp
  · exact row_other er fun g hg => ho g fun e => row_ne er h.hp (by decide) (by rw [hg, e])
  · exact row_other fr fun g hg => ho g fun e => row_ne fr h.hp (by decide) (by rw [hg, e])
  · exact row_other br fun g hg => ho g fun e => row_ne br h.hp (by decide) (by rw [hg, e])
theorem Gr.apart (h : Gr base w p uv fv bv nw s) {k : Nat} : Apart w p k ↔ (k ≠ p ∧ uv.ownBlock ≠ some k ∧ fv.ownBlock ≠ some k ∧ bv.ownBlock ≠ some k) := by
  constructor
  · rintro ⟨h1, h2⟩
    exact ⟨h1, (h2 6 uv (h.cell 6)).1, (h2 5 fv (h.cell 5)).1, (h2 7 bv (h.cell 7)).1⟩
  · rintro ⟨h1, h2, h3, h4⟩
    refine ⟨h1, fun j v hv => ?_⟩
    rw [h.cell j] at hv
    match j, hv with
    | 0, hv => cases hv; exact ⟨by simp [Value.ownBlock], by simp⟩
    | 1, hv => cases hv; exact ⟨by simp [Value.ownBlock], by simp⟩
    | 2, hv => cases hv; exact ⟨by simp [Value.ownBlock], by simp⟩
    | 3, hv => cases hv; exact ⟨by simp [Value.ownBlock], by simp⟩
    | 4, hv => cases hv; exact ⟨by simp [Value.ownBlock], by simp⟩
    | 5, hv => cases hv; exact ⟨h3, by obtain ⟨a, c, rfl, _⟩ := h.fr.open; simp⟩
    | 6, hv => cases hv; exact ⟨h2, by obtain ⟨a, c, rfl, _⟩ := h.er.open; simp⟩
    | 7, hv => cases hv; exact ⟨h4, by obtain ⟨a, c, rfl, _⟩ := h.br.open; simp⟩
    | j + 8, hv => simp at hv
theorem Gr.frame {w' : World} {uv' fv' bv' : Value} {s' : St} (h : Gr base w p uv fv bv nw s) (h' : Gr base w' p uv' fv' bv' nw s')
    (hs : w.heap.size ≤ w'.heap.size) (hk : ∀ k, k < w.heap.size → k ≠ p → uv.ownBlock ≠ some k → fv.ownBlock ≠ some k → bv.ownBlock ≠ some k → w'.heap[k]? = w.heap[k]?)
    (he : ∀ k, uv'.ownBlock = some k → uv.ownBlock = some k ∨ w.heap.size ≤ k) (hf : ∀ k, fv'.ownBlock = some k → fv.ownBlock = some k ∨ w.heap.size ≤ k) (hb : ∀ k, bv'.ownBlock = some k → bv.ownBlock = some k ∨ w.heap.size ≤ k) : Fr w w' p := by
  refine ⟨hs, fun k hlt ha => ?_⟩
  obtain ⟨a1, a2, a3, a4⟩ := h.apart.1 ha
  refine ⟨hk k hlt a1 a2 a3 a4, h'.apart.2 ⟨a1, fun e => ?_, fun e => ?_, fun e => ?_⟩⟩
  · rcases he k e with x | x
    · exact a2 x
    · omega
  · rcases hf k e with x | x
    · exact a3 x
    · omega
  · rcases hb k e with x | x
    · exact a4 x
    · omega
end
def GrE (base : Nat) (w : World) (p : Nat) (nw : Bool) (s : St) : Prop := ∃ uv fv bv, Gr base w p uv fv bv nw s
theorem GrE.below {base : Nat} {w w' : World} {p : Nat} {nw : Bool} {s : St} (h : GrE base w p nw s) (hb : Below w.heap.size w w') : GrE base w' p nw s := by
  obtain ⟨uv, fv, bv, h⟩ := h
  exact ⟨uv, fv, bv, h.below hb⟩
def tellR (u : List Int) (d x y t : Int) : List Int := updR 11 (updR 11 (updR 11 (updR 11 u 6 d) 7 x) 8 y) 9 t
end Go.Proofs.YtcbalhicaipmlaaGreat
namespace Go.Proofs.YtcbalhicaipmlaaGreat
open Go.RowKit
def ruleL (nw : Bool) (k : Int) : List Int := if nw then [Pl.nCost k, Pl.nHP k, Pl.nSpeed k, Pl.nHarm k, Pl.nRange k, Pl.nLoad k] else [Pl.eCost k, Pl.eHP k, Pl.eSpeed k, Pl.eHarm k, Pl.eRange k, Pl.eLoad k]
def hasB (nw : Bool) (k : Int) : Bool := if nw then Pl.nHas k else Pl.eHas k
theorem rule_calls (nw : Bool) (k : Int) (w : World) :
    Calls Tryz.prog 103 #[.int .i64 k, .bool nw] w fun e w' => e = .returned (.tuple #[.agg #[.int .i64 (fld (ruleL nw k) 0), .int .i64 (fld (ruleL nw k) 1), .int .i64 (fld (ruleL nw k) 2), .int .i64 (fld (ruleL nw k) 3), .int .i64 (fld (ruleL nw k) 4), .int .i64 (fld (ruleL nw k) 5)], .bool (hasB nw k)]) ∧ w' = w.alloc (.cells #[.int .i64 (fld (ruleL nw k) 0), .int .i64 (fld (ruleL nw k) 1), .int .i64 (fld (ruleL nw k) 2), .int .i64 (fld (ruleL nw k) 3), .int .i64 (fld (ruleL nw k) 4), .int .i64 (fld (ruleL nw k) 5)] 124) := by
  cases nw
  · exact ruleE_calls k w
  · exact ruleN_calls k w
end Go.Proofs.YtcbalhicaipmlaaGreat

/- The reference's game: one is told to go, to aim. -/
import Derived.Test.YtmnddahkbmlibaaTnMemA
import Derived.Test.YtmnddahkbmlibaaTnRefBA
import Derived.Test.YtmnddahkbmlibaaTnHdA
namespace Go.Proofs.Ytmnddahkbmlibaa
open Go.RowKit Go.Maps
theorem rowU_recs {base : Nat} {w : World} {g n c : Nat} {us : List (List Int)} (h : RowU base w (.slice (some ⟨g, 0, none⟩) n c) us) : Recs w (some ⟨g, 0, none⟩) 11 us :=
  Or.inr ⟨g, 0, rfl, fun i hi j hj => by rw [Nat.zero_add]; exact (h.cells hi).1 j hj⟩
theorem Recs.heldU {W : World} {g : Nat} {us : List (List Int)} (h : Recs W (some ⟨g, 0, none⟩) 11 us) {k : Nat} (hk : k < us.length) {t : List Int} (ht : rec us k = t) :
    ∀ j, j < 11 → ∀ w', Below W.heap.size W w' → w'.cell? ⟨g, k * 11 + j, none⟩ = some (.int .i64 (fld t j)) := fun j hj w' hb => by
  obtain ⟨b', o', hbo, hc⟩ := (h.below hb).at hk
  cases hbo
  have := hc j hj
  rw [Nat.zero_add] at this
  rw [← ht]
  exact this
def goesR (nw : Bool) (s : St) (i : Nat) (x y : Int) : St :=
  if (Pl.onB x y && decide (0 < fld (ruleL nw (fld (rec s.es i) 2)) 2)) = true then { s with es := s.es.set i (tellR (rec s.es i) 1 x y 0) } else s
def aimsR (nw : Bool) (s : St) (i : Nat) (t d : Int) : St :=
  if 0 ≤ whoZ t s.es ∧ 0 < d ∧ mayZ nw (rec s.es i) (rec s.es (whoZ t s.es).toNat) = d then { s with es := s.es.set i (tellR (rec s.es i) d 0 0 t) } else s
end Go.Proofs.Ytmnddahkbmlibaa
namespace Go.Proofs.Ytmnddahkbmlibaa
open Go.RowKit Go.Maps
def tgtR (us : List (List Int)) (u : List Int) : List Int := rec us (whoZ (fld u 9) us).toNat
end Go.Proofs.Ytmnddahkbmlibaa
namespace Go.Proofs.Ytmnddahkbmlibaa
open Go.RowKit Go.Maps
end Go.Proofs.Ytmnddahkbmlibaa
namespace Go.Proofs.Ytmnddahkbmlibaa
open Go.RowKit Go.Maps
abbrev zeroUnit : Value := .agg #[.int .i64 0, .int .i64 0, .int .i64 0, .int .i64 0, .int .i64 0, .int .i64 0, .int .i64 0, .int .i64 0, .int .i64 0, .int .i64 0, .int .i64 0]
theorem info_unit : (Try.prog.info? 110).map (fun i => (i.zero, i.size, i.bytes)) = some (some zeroUnit, 11, 88) := by kernel_rfl
theorem flatU_src {w : World} {b o : Nat} {xs : List (List Int)} (h : ∀ i, i < xs.length → ∀ j, j < 11 → w.cell? ⟨b, o + i * 11 + j, none⟩ = some (.int .i64 (fld (rec xs i) j))) : ∀ j u, (flat 11 xs)[j]? = some u → w.cell? ((⟨b, o, none⟩ : Addr).add j) = some u := by
  intro m u hm
  have e : m = (m / 11) * 11 + m % 11 := by omega
  have hr : m % 11 < 11 := Nat.mod_lt _ (by omega)
  generalize m / 11 = q at e
  generalize m % 11 = r at e hr
  subst e
  rw [flat_get hr] at hm
  split at hm
  next hq =>
    rw [add_off, ← Nat.add_assoc, h q hq r hr]
    exact hm
  · cases hm
theorem rowRunU (w : World) (base : Nat) (ty : TypeId) (v : Value) (es : List (List Int)) (hown : RowU base w v es) (xa : Option Addr) (xc : Nat) (xs : List (List Int)) (hx : Recs w xa 11 xs) (hnil : xa = none → xc = 0)
    (hlen : es.length + xs.length ≤ 100000) (hbase : base ≤ w.heap.size) :
    ∃ v' w', (Builtin.append_ #[88, 88] ty #[v, .slice xa xs.length xc]).run Try.prog w = .ok v' w' ∧ RowU base w' v' (es ++ xs) ∧ w.grownBy w' v.ownBlock ∧ (v'.ownBlock = v.ownBlock ∨ v'.ownBlock = some w.heap.size) := by
  obtain ⟨i0, hi, hz0, hz1, hz2⟩ := info_parts info_unit
  rcases xa with _ | ad
  · have hx0 : xs = [] := by
      rcases hx with h | ⟨b, o, h, _⟩
      · exact h
      · cases h
    subst hx0
    rw [hnil rfl]
    have hrun := run_append_owned_none (P := Try.prog) (w := w) base 88 ty 110 i0 11 Try.underlying88 hi v _ _ hown
    refine ⟨v, w, hrun, by rw [List.append_nil]; exact hown, ⟨rfl, rfl, rfl, Nat.le_refl _, fun _ _ _ => rfl⟩, Or.inl rfl⟩
  · have hsrc : ∀ j u, (flat 11 xs)[j]? = some u → w.cell? (ad.add j) = some u := by
      rcases hx with h | ⟨b', o', h, hc⟩
      · subst h
        intro j u hj
        simp [flat] at hj
      · cases h
        exact flatU_src hc
    obtain ⟨v', w', hr, h2, h3, h4, h5⟩ := run_append_own_at (P := Try.prog) w base 88 ty 110 i0 zeroUnit 11 88 Try.underlying88 hi hz0 hz1 hz2 rfl (by decide) v _ _ hown ad xs.length xc (flat 11 xs) (flat_length 11 xs) hsrc (flat_one xs 11) (by unfold maxLen; omega) (by omega) hbase
    refine ⟨v', w', hr, ?_, h3, h5⟩
    unfold RowU
    rw [List.length_append, flat_append]
    exact h2
theorem wp_rowsU {ops : Array Oper} {rest : List Oper} {o : Oper} {a : Act} {Q : Exit → Act → World → Prop} (w : World) (hgd : o.guard = none) (s x : Operand)
    (ho : o.op = .call { callee := .builtin .append, args := #[s, x], argTypes := #[88, 88] }) (base : Nat) (v : Value) (es : List (List Int)) (hs : a.eval s = v) (hown : RowU base w v es)
    (xa : Option Addr) (xc : Nat) (xs : List (List Int)) (hxe : a.eval x = .slice xa xs.length xc) (hx : Recs w xa 11 xs) (hnil : xa = none → xc = 0) (hlen : es.length + xs.length ≤ 100000) (hbase : base ≤ w.heap.size)
    (h : ∀ v' w', RowU base w' v' (es ++ xs) → w.grownBy w' v.ownBlock → (v'.ownBlock = v.ownBlock ∨ v'.ownBlock = some w.heap.size) → wpList Try.prog ops Q rest (a.put o.dst v') w') : wpList Try.prog ops Q (o :: rest) a w := by
  refine wpList_plain hgd fun K hK => ?_
  obtain ⟨v', w', hr, h2, h3, h4⟩ := rowRunU w base o.type v es hown xa xc xs hx hnil hlen hbase
  unfold Oper.wp execOp
  simp only [ho, resolve, invoke, builtin, Sem.run_bind, Sem.run_pure, Result.andThen_ok, List.map_toArray, List.map_cons, List.map_nil, hs, hxe, hr]
  exact hK _ _ (h v' w' h2 h3 h4)
theorem step_rowsU {ops : Array Oper} {o : Oper} {a : Act} {w : World} {K : Act → World → Prop} {Q : Exit → Act → World → Prop} {E : Prop} (hgd : o.guard = none) (s x : Operand)
    (ho : o.op = .call { callee := .builtin .append, args := #[s, x], argTypes := #[88, 88] }) (base : Nat) (v : Value) (es : List (List Int)) (hs : a.eval s = v) (hown : RowU base w v es)
    (xa : Option Addr) (xc : Nat) (xs : List (List Int)) (hxe : a.eval x = .slice xa xs.length xc) (hx : Recs w xa 11 xs) (hnil : xa = none → xc = 0) (hlen : es.length + xs.length ≤ 100000) (hbase : base ≤ w.heap.size)
    (h : ∀ v' w', RowU base w' v' (es ++ xs) → w.grownBy w' v.ownBlock → (v'.ownBlock = v.ownBlock ∨ v'.ownBlock = some w.heap.size) → K (a.put o.dst v') w') :
    if Region.wanted o (yielded ops a.tmps) = true then Oper.wp Try.prog o a w K Q else E := by
  have hw : Region.wanted o (yielded ops a.tmps) = true := by simp [Region.wanted, hgd]
  rw [if_pos hw]
  obtain ⟨v', w', hr, h2, h3, h4⟩ := rowRunU w base o.type v es hown xa xc xs hx hnil hlen hbase
  unfold Oper.wp execOp
  simp only [ho, resolve, invoke, builtin, Sem.run_bind, Sem.run_pure, Result.andThen_ok, List.map_toArray, List.map_cons, List.map_nil, hs, hxe, hr]
  exact h v' w' h2 h3 h4
end Go.Proofs.Ytmnddahkbmlibaa

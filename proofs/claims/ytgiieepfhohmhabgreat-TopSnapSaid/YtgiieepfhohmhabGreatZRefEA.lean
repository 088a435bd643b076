/- The reference's game: one is told to go, to aim. -/
import Derived.Deep.MidRow
import Derived.Deep.RegionHeld3
import Derived.Deep.DeepCutAuto
import Derived.Laws.IdiomCopy
import Derived.Test.YtgiieepfhohmhabGreatZMemA
import Derived.Test.YtgiieepfhohmhabGreatZRefBA
import Derived.Test.YtgiieepfhohmhabGreatZElB
namespace Go.Proofs.YtgiieepfhohmhabGreat
open Go.RowKit Go.Maps
def goesR (nw : Bool) (s : St) (i : Nat) (x y : Int) : St :=
  if (Pl.onB x y && decide (0 < fld (ruleL nw (fld (rec s.es i) 2)) 2)) = true then { s with es := s.es.set i (tellR (rec s.es i) 1 x y 0) } else s
def aimsR (nw : Bool) (s : St) (i : Nat) (t d : Int) : St :=
  if 0 ≤ whoZ t s.es ∧ 0 < d ∧ mayZ nw (rec s.es i) (rec s.es (whoZ t s.es).toNat) = d then { s with es := s.es.set i (tellR (rec s.es i) d 0 0 t) } else s
end Go.Proofs.YtgiieepfhohmhabGreat
namespace Go.Proofs.YtgiieepfhohmhabGreat
open Go.RowKit Go.Maps
def tgtR (us : List (List Int)) (u : List Int) : List Int := rec us (whoZ (fld u 9) us).toNat
end Go.Proofs.YtgiieepfhohmhabGreat
namespace Go.Proofs.YtgiieepfhohmhabGreat
open Go.RowKit Go.Maps
end Go.Proofs.YtgiieepfhohmhabGreat
namespace Go.Proofs.YtgiieepfhohmhabGreat
open Go.RowKit Go.Maps
abbrev zeroUnit : Value := .agg #[.int .i64 0, .int .i64 0, .int .i64 0, .int .i64 0, .int .i64 0, .int .i64 0, .int .i64 0, .int .i64 0, .int .i64 0, .int .i64 0, .int .i64 0]
theorem info_unit : (Tryz.prog.info? 118).map (fun i => (i.zero, i.size, i.bytes)) = some (some zeroUnit, 11, 88) := by kernel_rfl
theorem flatU_src {w : World} {b o : Nat} {xs : List (List Int)} (h : ∀ i, i < xs.length → ∀ j, j < 11 → w.cell? ⟨b, o + i * 11 + j, none⟩ = some (.int .i64 (fld (rec xs i) j))) : ∀ j u, (flat 11 xs)[j]? = some u → w.cell? ((⟨b, o, none⟩ : Addr).add j) = some u := by
  intro m u hm
  have e : m = (m / 11) * 11 + m % 11 := by omega
  have hr : m % 11 < 11 := Nat.mod_lt _ (by omega)
  generalize m / 11 = q at e
  generalize m % 11 = r at e hr
  subst e
  rw [flat_get hr] at hm
  split at hm
  next hq =>
    rw [add_off, ← Nat.add_assoc, h q hq r hr]
    exact hm
  · cases hm
theorem rowRunU (w : World) (base : Nat) (ty : TypeId) (v : Value) (es : List (List Int)) (hown : RowU base w v es) (xa : Option Addr) (xc : Nat) (xs : List (List Int)) (hx : Recs w xa 11 xs) (hnil : xa = none → xc = 0)
    (hlen : es.length + xs.length ≤ 100000) (hbase : base ≤ w.heap.size) :
    ∃ v' w', (Builtin.append_ #[36, 36] ty #[v, .slice xa xs.length xc]).run Tryz.prog w = .ok v' w' ∧ RowU base w' v' (es ++ xs) ∧ w.grownBy w' v.ownBlock ∧ (v'.ownBlock = v.ownBlock ∨ v'.ownBlock = some w.heap.size) := by
  obtain ⟨i0, hi, hz0, hz1, hz2⟩ := info_parts info_unit
  rcases xa with _ | ad
  · have hx0 : xs = [] := by
      rcases hx with h | ⟨b, o, h, _⟩
      · exact h
      · cases h
    subst hx0
    rw [hnil rfl]
    have hrun := run_append_owned_none (P := Tryz.prog) (w := w) base 36 ty 118 i0 11 Tryz.underlying36 hi v _ _ hown
    refine ⟨v, w, hrun, by rw [List.append_nil]; exact hown, ⟨rfl, rfl, rfl, Nat.le_refl _, fun _ _ _ => rfl⟩, Or.inl rfl⟩
  · have hsrc : ∀ j u, (flat 11 xs)[j]? = some u → w.cell? (ad.add j) = some u := by
      rcases hx with h | ⟨b', o', h, hc⟩
      · subst h
        intro j u hj
        simp [flat] at hj
      · cases h
        exact flatU_src hc
    obtain ⟨v', w', hr, h2, h3, h4, h5⟩ := run_append_own_at (P := Tryz.prog) w base 36 ty 118 i0 zeroUnit 11 88 Tryz.underlying36 hi hz0 hz1 hz2 rfl (by decide) v _ _ hown ad xs.length xc (flat 11 xs) (flat_length 11 xs) hsrc (flat_one xs 11) (by unfold maxLen; omega) (by omega) hbase
    refine ⟨v', w', hr, ?_, h3, h5⟩
    unfold RowU
    rw [List.length_append, flat_append]
    exact h2
theorem step_rowsU {ops : Array Oper} {o : Oper} {a : Act} {w : World} {K : Act → World → Prop} {Q : Exit → Act → World → Prop} {E : Prop} (hgd : o.guard = none) (s x : Operand)
    (ho : o.op = .call { callee := .builtin .append, args := #[s, x], argTypes := #[36, 36] }) (base : Nat) (v : Value) (es : List (List Int)) (hs : a.eval s = v) (hown : RowU base w v es)
    (xa : Option Addr) (xc : Nat) (xs : List (List Int)) (hxe : a.eval x = .slice xa xs.length xc) (hx : Recs w xa 11 xs) (hnil : xa = none → xc = 0) (hlen : es.length + xs.length ≤ 100000) (hbase : base ≤ w.heap.size)
    (h : ∀ v' w', RowU base w' v' (es ++ xs) → w.grownBy w' v.ownBlock → (v'.ownBlock = v.ownBlock ∨ v'.ownBlock = some w.heap.size) → K (a.put o.dst v') w') :
    if Region.wanted o (yielded ops a.tmps) = true then Oper.wp Tryz.prog o a w K Q else E := by
  have hw : Region.wanted o (yielded ops a.tmps) = true := by simp [Region.wanted, hgd]
  rw [if_pos hw]
  obtain ⟨v', w', hr, h2, h3, h4⟩ := rowRunU w base o.type v es hown xa xc xs hx hnil hlen hbase
  unfold Oper.wp execOp
  simp only [ho, resolve, invoke, builtin, Sem.run_bind, Sem.run_pure, Result.andThen_ok, List.map_toArray, List.map_cons, List.map_nil, hs, hxe, hr]
  exact h v' w' h2 h3 h4
end Go.Proofs.YtgiieepfhohmhabGreat
namespace Go.Proofs.YtgiieepfhohmhabGreat
open Go.RowKit Go.Maps
end Go.Proofs.YtgiieepfhohmhabGreat
namespace Go.Proofs.YtgiieepfhohmhabGreat
open Go.RowKit Go.Maps
end Go.Proofs.YtgiieepfhohmhabGreat
namespace Go.Proofs.YtgiieepfhohmhabGreat
open Go.RowKit Go.Maps
theorem recs_one (w : World) (u : List Int) (t : TypeId) : Recs (w.alloc (.cells (entC u) t)) (some ⟨w.heap.size, 0, none⟩) 10 [u] := by
  refine Or.inr ⟨w.heap.size, 0, rfl, fun i hi j hj => ?_⟩
  have h0 : i = 0 := by simpa using hi
  subst h0
  rw [Nat.zero_mul, Nat.zero_add, World.cell?_alloc_at _ _ _ _ rfl]
  match j, hj with
  | 0, _ => rfl
  | 1, _ => rfl
  | 2, _ => rfl
  | 3, _ => rfl
  | 4, _ => rfl
  | 5, _ => rfl
  | 6, _ => rfl
  | 7, _ => rfl
  | 8, _ => rfl
  | 9, _ => rfl
end Go.Proofs.YtgiieepfhohmhabGreat
namespace Go.Proofs.YtgiieepfhohmhabGreat
open Go.RowKit Go.Maps
abbrev cmdV (q : List Int) : Value := .agg #[.int .i64 (fld q 0), .int .i64 (fld q 1), .int .i64 (fld q 2), .int .i64 (fld q 3), .int .i64 (fld q 4), .int .i64 (fld q 5), .int .i64 (fld q 6)]
abbrev cmdC (q : List Int) : Array Value := #[.int .i64 (fld q 0), .int .i64 (fld q 1), .int .i64 (fld q 2), .int .i64 (fld q 3), .int .i64 (fld q 4), .int .i64 (fld q 5), .int .i64 (fld q 6)]
def goldOf (s : St) (o : Int) : Int := if o = 0 then s.g0 else s.g1
def payS (s : St) (o c : Int) : St := if o = 0 then { s with g0 := s.g0 - c } else { s with g1 := s.g1 - c }
theorem nums_one (w : World) (x : Int) (t : TypeId) : Nums (w.alloc (.cells #[.int .i64 x] t)) (some ⟨w.heap.size, 0, none⟩) [x] := by
  refine Or.inr ⟨w.heap.size, 0, rfl, fun i hi => ?_⟩
  have h0 : i = 0 := by simpa using hi
  subst h0
  rw [World.cell?_alloc_at _ _ _ _ rfl]
  rfl
end Go.Proofs.YtgiieepfhohmhabGreat
namespace Go.Proofs.YtgiieepfhohmhabGreat
open Go.RowKit Go.Maps
end Go.Proofs.YtgiieepfhohmhabGreat
namespace Go.Proofs.YtgiieepfhohmhabGreat
open Go.RowKit Go.Maps
def putS (u : List Int) (a : List (List Int) × Bool) (x : List Int) : List (List Int) × Bool := if (!a.2 && decide (fld u 0 < fld x 0)) = true then (a.1 ++ [u] ++ [x], true) else (a.1 ++ [x], a.2)
def putK (u : List Int) (us : List (List Int)) (k : Nat) : List (List Int) × Bool := (us.take k).foldl (putS u) ([], false)
def putR (u : List Int) (us : List (List Int)) : List (List Int) := if (putK u us us.length).2 = true then (putK u us us.length).1 else (putK u us us.length).1 ++ [u]
theorem recs_oneU (w : World) (u : List Int) (t : TypeId) : Recs (w.alloc (.cells (unitC u) t)) (some ⟨w.heap.size, 0, none⟩) 11 [u] := by
  refine Or.inr ⟨w.heap.size, 0, rfl, fun i hi j hj => ?_⟩
  have h0 : i = 0 := by simpa using hi
  subst h0
  rw [cell_of_row _ _ (0 + 0 * 11 + j) _ _ _ (heap_alloc_new w _)]
  have e : 0 + 0 * 11 + j = j := by omega
  rw [e]
  show (unitC u)[j]? = some (.int .i64 (fld u j))
  match j, hj with
  | 0, _ | 1, _ | 2, _ | 3, _ | 4, _ | 5, _ | 6, _ | 7, _ | 8, _ | 9, _ | 10, _ => rfl
end Go.Proofs.YtgiieepfhohmhabGreat
namespace Go.Proofs.YtgiieepfhohmhabGreat
open Go.RowKit Go.Maps
section
variable {w w' : World} {p : Nat} {nw : Bool} {s : St} {ua fa : Option Addr} {uc fc : Nat} {bv : Value}
end
end Go.Proofs.YtgiieepfhohmhabGreat

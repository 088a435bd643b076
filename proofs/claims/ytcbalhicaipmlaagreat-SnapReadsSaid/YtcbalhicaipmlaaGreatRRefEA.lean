/- The reference's game: one is told to go, to aim. -/
import Derived.Deep.MidRow
import Derived.Deep.RegionHeld3
import Derived.Deep.DeepCutAuto
import Derived.Laws.IdiomCopy
import Derived.Test.YtcbalhicaipmlaaGreatRMemA
import Derived.Test.YtcbalhicaipmlaaGreatRRefBA
import Derived.Test.YtcbalhicaipmlaaGreatRElB
namespace Go.Proofs.YtcbalhicaipmlaaGreat
open Go.RowKit Go.Maps
def goesR (nw : Bool) (s : St) (i : Nat) (x y : Int) : St :=
  if (Pl.onB x y && decide (0 < fld (ruleL nw (fld (rec s.es i) 2)) 2)) = true then { s with es := s.es.set i (tellR (rec s.es i) 1 x y 0) } else s
def aimsR (nw : Bool) (s : St) (i : Nat) (t d : Int) : St :=
  if 0 ≤ whoZ t s.es ∧ 0 < d ∧ mayZ nw (rec s.es i) (rec s.es (whoZ t s.es).toNat) = d then { s with es := s.es.set i (tellR (rec s.es i) d 0 0 t) } else s
theorem whoZ_bd (id : Int) (us : List (List Int)) : -1 ≤ whoZ id us ∧ whoZ id us < us.length := by
  unfold whoZ
  cases h : us.findIdx? (fun r => fld r 0 == id) with
  | none => simp only; omega
  | some k =>
    have := (List.findIdx?_eq_some_iff_getElem.1 h).1
    simp only
    omega
end Go.Proofs.YtcbalhicaipmlaaGreat
namespace Go.Proofs.YtcbalhicaipmlaaGreat
open Go.RowKit Go.Maps
def tgtR (us : List (List Int)) (u : List Int) : List Int := rec us (whoZ (fld u 9) us).toNat
end Go.Proofs.YtcbalhicaipmlaaGreat
namespace Go.Proofs.YtcbalhicaipmlaaGreat
open Go.RowKit Go.Maps
end Go.Proofs.YtcbalhicaipmlaaGreat
namespace Go.Proofs.YtcbalhicaipmlaaGreat
open Go.RowKit Go.Maps
abbrev zeroUnit : Value := .agg #[.int .i64 0, .int .i64 0, .int .i64 0, .int .i64 0, .int .i64 0, .int .i64 0, .int .i64 0, .int .i64 0, .int .i64 0, .int .i64 0, .int .i64 0]
theorem info_unit : (Tryz.prog.info? 121).map (fun i => (i.zero, i.size, i.bytes)) = some (some zeroUnit, 11, 88) := by kernel_rfl
theorem flatU_src {w : World} {b o : Nat} {xs : List (List Int)} (h : ∀ i, i < xs.length → ∀ j, j < 11 → w.cell? ⟨b, o + i * 11 + j, none⟩ = some (.int .i64 (fld (rec xs i) j))) : ∀ j u, (flat 11 xs)[j]? = some u → w.cell? ((⟨b, o, none⟩ : Addr).add j) = some u := by
  intro m u hm
  have e : m = (m / 11) * 11 + m % 11 := by omega
  have hr : m % 11 < 11 := Nat.mod_lt _ (by omega)
  generalize m / 11 = q at e
  generalize m % 11 = r at e hr
  subst e
  rw [flat_get hr] at hm
  split at hm
  next hq =>
    rw [add_off, ← Nat.add_assoc, h q hq r hr]
    exact hm
  · cases hm
theorem rowRunU (w : World) (base : Nat) (ty : TypeId) (v : Value) (es : List (List Int)) (hown : RowU base w v es) (xa : Option Addr) (xc : Nat) (xs : List (List Int)) (hx : Recs w xa 11 xs) (hnil : xa = none → xc = 0)
    (hlen : es.length + xs.length ≤ 100000) (hbase : base ≤ w.heap.size) :
    ∃ v' w', (Builtin.append_ #[30, 30] ty #[v, .slice xa xs.length xc]).run Tryz.prog w = .ok v' w' ∧ RowU base w' v' (es ++ xs) ∧ w.grownBy w' v.ownBlock ∧ (v'.ownBlock = v.ownBlock ∨ v'.ownBlock = some w.heap.size) := by
  obtain ⟨i0, hi, hz0, hz1, hz2⟩ := info_parts info_unit
  rcases xa with _ | ad
  · have hx0 : xs = [] := by
      rcases hx with h | ⟨b, o, h, _⟩
      · exact h
      · cases h
    subst hx0
    rw [hnil rfl]
    have hrun := run_append_owned_none (P := Tryz.prog) (w := w) base 30 ty 121 i0 11 Tryz.underlying30 hi v _ _ hown
    refine ⟨v, w, hrun, by rw [List.append_nil]; exact hown, ⟨rfl, rfl, rfl, Nat.le_refl _, fun _ _ _ => rfl⟩, Or.inl rfl⟩
  · have hsrc : ∀ j u, (flat 11 xs)[j]? = some u → w.cell? (ad.add j) = some u := by
      rcases hx with h | ⟨b', o', h, hc⟩
      · subst h
        intro j u hj
        simp [flat] at hj
      · cases h
        exact flatU_src hc
    obtain ⟨v', w', hr, h2, h3, h4, h5⟩ := run_append_own_at (P := Tryz.prog) w base 30 ty 121 i0 zeroUnit 11 88 Tryz.underlying30 hi hz0 hz1 hz2 rfl (by decide) v _ _ hown ad xs.length xc (flat 11 xs) (flat_length 11 xs) hsrc (flat_one xs 11) (by unfold maxLen; omega) (by omega) hbase
    refine ⟨v', w', hr, ?_, h3, h5⟩
    unfold RowU
    rw [List.length_append, flat_append]
    exact h2
theorem wp_rowsU {ops : Array Oper} {rest : List Oper} {o : Oper} {a : Act} {Q : Exit → Act → World → Prop} (w : World) (hgd : o.guard = none) (s x : Operand)
    (ho : o.op = .call { callee := .builtin .append, args := #[s, x], argTypes := #[30, 30] }) (base : Nat) (v : Value) (es : List (List Int)) (hs : a.eval s = v) (hown : RowU base w v es)
    (xa : Option Addr) (xc : Nat) (xs : List (List Int)) (hxe : a.eval x = .slice xa xs.length xc) (hx : Recs w xa 11 xs) (hnil : xa = none → xc = 0) (hlen : es.length + xs.length ≤ 100000) (hbase : base ≤ w.heap.size)
    (h : ∀ v' w', RowU base w' v' (es ++ xs) → w.grownBy w' v.ownBlock → (v'.ownBlock = v.ownBlock ∨ v'.ownBlock = some w.heap.size) → wpList Tryz.prog ops Q rest (a.put o.dst v') w') : wpList Tryz.prog ops Q (o :: rest) a w := by
  refine wpList_plain hgd fun K hK => ?_
  obtain ⟨v', w', hr, h2, h3, h4⟩ := rowRunU w base o.type v es hown xa xc xs hx hnil hlen hbase
  unfold Oper.wp execOp
  simp only [ho, resolve, invoke, builtin, Sem.run_bind, Sem.run_pure, Result.andThen_ok, List.map_toArray, List.map_cons, List.map_nil, hs, hxe, hr]
  exact hK _ _ (h v' w' h2 h3 h4)
theorem step_rowsU {ops : Array Oper} {o : Oper} {a : Act} {w : World} {K : Act → World → Prop} {Q : Exit → Act → World → Prop} {E : Prop} (hgd : o.guard = none) (s x : Operand)
    (ho : o.op = .call { callee := .builtin .append, args := #[s, x], argTypes := #[30, 30] }) (base : Nat) (v : Value) (es : List (List Int)) (hs : a.eval s = v) (hown : RowU base w v es)
    (xa : Option Addr) (xc : Nat) (xs : List (List Int)) (hxe : a.eval x = .slice xa xs.length xc) (hx : Recs w xa 11 xs) (hnil : xa = none → xc = 0) (hlen : es.length + xs.length ≤ 100000) (hbase : base ≤ w.heap.size)
    (h : ∀ v' w', RowU base w' v' (es ++ xs) → w.grownBy w' v.ownBlock → (v'.ownBlock = v.ownBlock ∨ v'.ownBlock = some w.heap.size) → K (a.put o.dst v') w') :
    if Region.wanted o (yielded ops a.tmps) = true then Oper.wp Tryz.prog o a w K Q else E := by
  have hw : Region.wanted o (yielded ops a.tmps) = true := by simp [Region.wanted, hgd]
  rw [if_pos hw]
  obtain ⟨v', w', hr, h2, h3, h4⟩ := rowRunU w base o.type v es hown xa xc xs hx hnil hlen hbase
  unfold Oper.wp execOp
  simp only [ho, resolve, invoke, builtin, Sem.run_bind, Sem.run_pure, Result.andThen_ok, List.map_toArray, List.map_cons, List.map_nil, hs, hxe, hr]
  exact h v' w' h2 h3 h4
end Go.Proofs.YtcbalhicaipmlaaGreat
namespace Go.Proofs.YtcbalhicaipmlaaGreat
open Go.RowKit Go.Maps
end Go.Proofs.YtcbalhicaipmlaaGreat
namespace Go.Proofs.YtcbalhicaipmlaaGreat
open Go.RowKit Go.Maps
theorem row_row_ne {w : World} {b1 b2 : Nat} {e1 e2 : TypeId} {s1 s2 : Nat} {v1 v2 : Value} {n1 n2 : Nat} {x1 x2 : List Value} (h1 : w.ownsRow b1 e1 s1 v1 n1 x1) (h2 : w.ownsRow b2 e2 s2 v2 n2 x2) (he : e2 ≠ e1) : v1.ownBlock = none ∨ v1.ownBlock ≠ v2.ownBlock := by
  rcases h2.2 with ⟨rfl, _⟩ | ⟨g, cap, cur, rfl, hbg, hgg, rest⟩
  · by_cases h : v1.ownBlock = none
    · exact Or.inl h
    · exact Or.inr h
  · exact Or.inr (row_ne h1 hgg he)
end Go.Proofs.YtcbalhicaipmlaaGreat
namespace Go.Proofs.YtcbalhicaipmlaaGreat
open Go.RowKit Go.Maps
theorem Fr.drew {a b : World} {p : Nat} (h : Fr a b p) : Fr a b.drew p := ⟨h.1, fun k hk ha => ⟨(h.2 k hk ha).1, (h.2 k hk ha).2.1, fun j v hv => (h.2 k hk ha).2.2 j v hv⟩⟩
theorem recs_one (w : World) (u : List Int) (t : TypeId) : Recs (w.alloc (.cells (entC u) t)) (some ⟨w.heap.size, 0, none⟩) 10 [u] := by
  refine Or.inr ⟨w.heap.size, 0, rfl, fun i hi j hj => ?_⟩
  have h0 : i = 0 := by simpa using hi
  subst h0
  rw [Nat.zero_mul, Nat.zero_add, World.cell?_alloc_at _ _ _ _ rfl]
  match j, hj with
  | 0, _ => rfl
  | 1, _ => rfl
  | 2, _ => rfl
  | 3, _ => rfl
  | 4, _ => rfl
  | 5, _ => rfl
  | 6, _ => rfl
  | 7, _ => rfl
  | 8, _ => rfl
  | 9, _ => rfl
end Go.Proofs.YtcbalhicaipmlaaGreat
namespace Go.Proofs.YtcbalhicaipmlaaGreat
open Go.RowKit Go.Maps
abbrev cmdV (q : List Int) : Value := .agg #[.int .i64 (fld q 0), .int .i64 (fld q 1), .int .i64 (fld q 2), .int .i64 (fld q 3), .int .i64 (fld q 4), .int .i64 (fld q 5), .int .i64 (fld q 6)]
abbrev cmdC (q : List Int) : Array Value := #[.int .i64 (fld q 0), .int .i64 (fld q 1), .int .i64 (fld q 2), .int .i64 (fld q 3), .int .i64 (fld q 4), .int .i64 (fld q 5), .int .i64 (fld q 6)]
def goldOf (s : St) (o : Int) : Int := if o = 0 then s.g0 else s.g1
def payS (s : St) (o c : Int) : St := if o = 0 then { s with g0 := s.g0 - c } else { s with g1 := s.g1 - c }
theorem nums_one (w : World) (x : Int) (t : TypeId) : Nums (w.alloc (.cells #[.int .i64 x] t)) (some ⟨w.heap.size, 0, none⟩) [x] := by
  refine Or.inr ⟨w.heap.size, 0, rfl, fun i hi => ?_⟩
  have h0 : i = 0 := by simpa using hi
  subst h0
  rw [World.cell?_alloc_at _ _ _ _ rfl]
  rfl
end Go.Proofs.YtcbalhicaipmlaaGreat
namespace Go.Proofs.YtcbalhicaipmlaaGreat
open Go.RowKit Go.Maps
end Go.Proofs.YtcbalhicaipmlaaGreat
namespace Go.Proofs.YtcbalhicaipmlaaGreat
open Go.RowKit Go.Maps
def putS (u : List Int) (a : List (List Int) × Bool) (x : List Int) : List (List Int) × Bool := if (!a.2 && decide (fld u 0 < fld x 0)) = true then (a.1 ++ [u] ++ [x], true) else (a.1 ++ [x], a.2)
def putK (u : List Int) (us : List (List Int)) (k : Nat) : List (List Int) × Bool := (us.take k).foldl (putS u) ([], false)
def putR (u : List Int) (us : List (List Int)) : List (List Int) := if (putK u us us.length).2 = true then (putK u us us.length).1 else (putK u us us.length).1 ++ [u]
theorem recs_oneU (w : World) (u : List Int) (t : TypeId) : Recs (w.alloc (.cells (unitC u) t)) (some ⟨w.heap.size, 0, none⟩) 11 [u] := by
  refine Or.inr ⟨w.heap.size, 0, rfl, fun i hi j hj => ?_⟩
  have h0 : i = 0 := by simpa using hi
  subst h0
  rw [cell_of_row _ _ (0 + 0 * 11 + j) _ _ _ (heap_alloc_new w _)]
  have e : 0 + 0 * 11 + j = j := by omega
  rw [e]
  show (unitC u)[j]? = some (.int .i64 (fld u j))
  match j, hj with
  | 0, _ | 1, _ | 2, _ | 3, _ | 4, _ | 5, _ | 6, _ | 7, _ | 8, _ | 9, _ | 10, _ => rfl
end Go.Proofs.YtcbalhicaipmlaaGreat
namespace Go.Proofs.YtcbalhicaipmlaaGreat
open Go.RowKit Go.Maps
def headR (nw : Bool) (s : St) : Bool := decide (s.t < 0) || (decide (60 < s.t) || (decide (s.nx < 1) || (decide (topZ nw + 1 < s.nx) || (decide (s.g0 < 0) || (decide (richZ nw < s.g0) || (decide (s.g1 < 0) || decide (richZ nw < s.g1)))))))
def manyR (s : St) : Bool := decide (20 < (s.es.length : Int)) || decide (200 < (s.free.length : Int))
def orderR (s : St) (i : Nat) : Bool := decide (s.nx ≤ fld (rec s.es i) 0) || (decide (0 < (i : Int)) && decide (fld (rec s.es i) 0 ≤ fld (rec s.es (i - 1)) 0))
def sameR (u v : List Int) : Bool := fld u 3 == fld v 3 && fld u 4 == fld v 4
def placeR (es : List (List Int)) (i : Nat) : Bool := (List.range i).any fun k => sameR (rec es k) (rec es i)
def oneAtR (nw : Bool) (s : St) (i : Nat) : Int :=
  if 0 < oneR nw s.t (rec s.es i) then oneR nw s.t (rec s.es i) else if orderR s i = true then 3 else if placeR s.es i = true then 3 else 0
def aimBadR (nw : Bool) (es : List (List Int)) (i : Nat) : Bool :=
  decide (fld (rec es i) 9 ≠ 0) && (decide (whoZ (fld (rec es i) 9) es < 0) || mayZ nw (rec es i) (rec es (whoZ (fld (rec es i) 9) es).toNat) != fld (rec es i) 6)
def cntR (s : St) (id : Int) : Int := (s.free.count id : Int) + (if 0 ≤ whoZ id s.es then 1 else 0)
def freeR (s : St) : Int := if ∀ j, j < (s.nx - 1).toNat → cntR s ((j : Int) + 1) = 1 then (if (s.free.length : Int) + (s.es.length : Int) = s.nx - 1 then 0 else 3) else 3
def firstR (nw : Bool) (s : St) : Nat := firstE s.es.length fun i => (oneAtR nw s i).toNat
def tailR (nw : Bool) (s : St) : Int := if firstR nw s = 0 then (if ∀ i, i < s.es.length → aimBadR nw s.es i = false then (if nw = true then 0 else freeR s) else 3) else (firstR nw s : Int)
def faultR (nw : Bool) (s : St) : Int := if headR nw s = true then 1 else if manyR s = true then 2 else tailR nw s
theorem oneR_bd (nw : Bool) (t : Int) (u : List Int) : 0 ≤ oneR nw t u ∧ oneR nw t u ≤ 3 := by
  unfold oneR shapeR
  split
  · omega
  · split
    · omega
    · split <;> omega
structure FG (w : World) (p : Nat) (nw : Bool) (s : St) (ua fa : Option Addr) (uc fc : Nat) (bv : Value) : Prop where
  hp : w.heap[p]? = some (.cells (refC nw s (.slice fa s.free.length fc) (.slice ua s.es.length uc) bv) 136)
  ur : Recs w ua 11 s.es
  fr : Nums w fa s.free
section
variable {w w' : World} {p : Nat} {nw : Bool} {s : St} {ua fa : Option Addr} {uc fc : Nat} {bv : Value}
theorem FG.lt (h : FG w p nw s ua fa uc fc bv) : p < w.heap.size := (Array.getElem?_eq_some_iff.1 h.hp).1
theorem FG.below (h : FG w p nw s ua fa uc fc bv) (hb : Below w.heap.size w w') : FG w' p nw s ua fa uc fc bv :=
  ⟨(hb.block p h.lt).trans h.hp, h.ur.below hb, h.fr.below hb⟩
theorem FG.seven (h : FG w p nw s ua fa uc fc bv) : w.cell? ⟨p, 0, none⟩ = some (.bool nw) ∧ w.cell? ⟨p, 1, none⟩ = some (.int .i64 s.t) ∧ w.cell? ⟨p, 2, none⟩ = some (.int .i64 s.g0) ∧ w.cell? ⟨p, 3, none⟩ = some (.int .i64 s.g1) ∧ w.cell? ⟨p, 4, none⟩ = some (.int .i64 s.nx) ∧ w.cell? ⟨p, 5, none⟩ = some (.slice fa s.free.length fc) ∧ w.cell? ⟨p, 6, none⟩ = some (.slice ua s.es.length uc) :=
  ⟨cell_of_row w p 0 _ _ _ h.hp, cell_of_row w p 1 _ _ _ h.hp, cell_of_row w p 2 _ _ _ h.hp, cell_of_row w p 3 _ _ _ h.hp, cell_of_row w p 4 _ _ _ h.hp, cell_of_row w p 5 _ _ _ h.hp, cell_of_row w p 6 _ _ _ h.hp⟩
end
theorem GrE.fg {base : Nat} {w : World} {p : Nat} {nw : Bool} {s : St} (h : GrE base w p nw s) : ∃ ua fa uc fc bv, FG w p nw s ua fa uc fc bv := by
  obtain ⟨uv, fv, bv, h⟩ := h
  obtain ⟨ea, c, rfl, _, hr, _⟩ := h.er.open
  obtain ⟨fa, fc, rfl, _, hf, _⟩ := h.fr.open
  exact ⟨ea, fa, c, fc, bv, h.hp, hr, hf⟩
theorem top_wrap (nw : Bool) : IntKind.i64.wrap (topZ nw + 1) = topZ nw + 1 := by cases nw <;> rfl
set_option maxRecDepth 100000 in
set_option maxHeartbeats 8000000 in
theorem fault_head (p : Nat) (nw : Bool) (s : St) (ua fa : Option Addr) (uc fc : Nat) (bv : Value) (w : World) (h : FG w p nw s ua fa uc fc bv) (hh : headR nw s = true) :
    Calls Tryz.prog 35 #[.pointer (some ⟨p, 0, none⟩)] w fun e w' => e = .returned (.int .i64 1) ∧ Below w.heap.size w w' := by
  obtain ⟨c0, c1, c2, c3, c4, c5, c6⟩ := h.seven
  have HC0 := hid c0
  have hr := topZ_bd nw
  have hwr := top_wrap nw
  clear h
  go_enter Tryz.func35, Tryz.ntmps35
  go_wp2_with fail
  refine (bounds_calls p nw _ HC0.out).mono ?_
  rintro e w1 ⟨rfl, rfl⟩
  clear c0 c5 c6
  unfold headR at hh
  rcases tf (decide (s.t < 0)) (tf (decide (60 < s.t)) (tf (decide (s.nx < 1)) (tf (decide (topZ nw + 1 < s.nx)) (tf (decide (s.g0 < 0)) (tf (decide (richZ nw < s.g0)) (tf (decide (s.g1 < 0)) trivial)))))) with h1 | ⟨h1, h2 | ⟨h2, h3 | ⟨h3, h4 | ⟨h4, h5 | ⟨h5, h6 | ⟨h6, h7 | ⟨h7, _⟩⟩⟩⟩⟩⟩⟩
  case inr.inr.inr.inr.inr.inr.inr =>
    have h8 : decide (richZ nw < s.g1) = true := by simpa only [h1, h2, h3, h4, h5, h6, h7, Bool.false_or] using hh
    clear hh
    go_wp2
    go_ret
    exact ⟨rfl, Below.refl _ _⟩
  all_goals
    clear hh
    go_wp2
    go_ret
    exact ⟨rfl, Below.refl _ _⟩
end Go.Proofs.YtcbalhicaipmlaaGreat

/- A tick under way: a row is moved within itself. -/
import Derived.Laws.IdiomCopy
import Derived.Test.YtgiieepfhohmhaaVElB
import Derived.Test.YtgiieepfhohmhaaVMemA
import Derived.Test.YtgiieepfhohmhaaVRefBA
import Derived.Test.YtgiieepfhohmhaaVHdA
namespace Go.Proofs.Ytgiieepfhohmhaa
open Go.RowKit Go.Maps
end Go.Proofs.Ytgiieepfhohmhaa
namespace Go.Proofs.Ytgiieepfhohmhaa
open Go.RowKit Go.Maps
theorem row_row_ne {w : World} {b1 b2 : Nat} {e1 e2 : TypeId} {s1 s2 : Nat} {v1 v2 : Value} {n1 n2 : Nat} {x1 x2 : List Value} (h1 : w.ownsRow b1 e1 s1 v1 n1 x1) (h2 : w.ownsRow b2 e2 s2 v2 n2 x2) (he : e2 ≠ e1) : v1.ownBlock = none ∨ v1.ownBlock ≠ v2.ownBlock := by
  rcases h2.2 with ⟨rfl, _⟩ | ⟨g, cap, cur, rfl, hbg, hgg, rest⟩
  · by_cases h : v1.ownBlock = none
    · exact Or.inl h
    · exact Or.inr h
  · exact Or.inr (row_ne h1 hgg he)
end Go.Proofs.Ytgiieepfhohmhaa
namespace Go.Proofs.Ytgiieepfhohmhaa
open Go.RowKit Go.Maps
theorem Fr.drew {a b : World} {p : Nat} (h : Fr a b p) : Fr a b.drew p := ⟨h.1, fun k hk ha => ⟨(h.2 k hk ha).1, (h.2 k hk ha).2.1, fun j v hv => (h.2 k hk ha).2.2 j v hv⟩⟩
theorem recs_one (w : World) (u : List Int) (t : TypeId) : Recs (w.alloc (.cells (entC u) t)) (some ⟨w.heap.size, 0, none⟩) 10 [u] := by
  refine Or.inr ⟨w.heap.size, 0, rfl, fun i hi j hj => ?_⟩
  have h0 : i = 0 := by simpa using hi
  subst h0
  rw [Nat.zero_mul, Nat.zero_add, World.cell?_alloc_at _ _ _ _ rfl]
  match j, hj with
  | 0, _ => rfl
  | 1, _ => rfl
  | 2, _ => rfl
  | 3, _ => rfl
  | 4, _ => rfl
  | 5, _ => rfl
  | 6, _ => rfl
  | 7, _ => rfl
  | 8, _ => rfl
  | 9, _ => rfl
end Go.Proofs.Ytgiieepfhohmhaa
namespace Go.Proofs.Ytgiieepfhohmhaa
open Go.RowKit Go.Maps
theorem nums_one (w : World) (x : Int) (t : TypeId) : Nums (w.alloc (.cells #[.int .i64 x] t)) (some ⟨w.heap.size, 0, none⟩) [x] := by
  refine Or.inr ⟨w.heap.size, 0, rfl, fun i hi => ?_⟩
  have h0 : i = 0 := by simpa using hi
  subst h0
  rw [World.cell?_alloc_at _ _ _ _ rfl]
  rfl
end Go.Proofs.Ytgiieepfhohmhaa
namespace Go.Proofs.Ytgiieepfhohmhaa
open Go.RowKit Go.Maps
end Go.Proofs.Ytgiieepfhohmhaa
namespace Go.Proofs.Ytgiieepfhohmhaa
open Go.RowKit Go.Maps
theorem recs_oneU (w : World) (u : List Int) (t : TypeId) : Recs (w.alloc (.cells (unitC u) t)) (some ⟨w.heap.size, 0, none⟩) 11 [u] := by
  refine Or.inr ⟨w.heap.size, 0, rfl, fun i hi j hj => ?_⟩
  have h0 : i = 0 := by simpa using hi
  subst h0
  rw [cell_of_row _ _ (0 + 0 * 11 + j) _ _ _ (heap_alloc_new w _)]
  have e : 0 + 0 * 11 + j = j := by omega
  rw [e]
  show (unitC u)[j]? = some (.int .i64 (fld u j))
  match j, hj with
  | 0, _ | 1, _ | 2, _ | 3, _ | 4, _ | 5, _ | 6, _ | 7, _ | 8, _ | 9, _ | 10, _ => rfl
end Go.Proofs.Ytgiieepfhohmhaa
namespace Go.Proofs.Ytgiieepfhohmhaa
open Go.RowKit Go.Maps
def headR (nw : Bool) (s : St) : Bool := decide (s.t < 0) || (decide (60 < s.t) || (decide (s.nx < 1) || (decide (topZ nw + 1 < s.nx) || (decide (s.g0 < 0) || (decide (richZ nw < s.g0) || (decide (s.g1 < 0) || decide (richZ nw < s.g1)))))))
def manyR (s : St) : Bool := decide (20 < (s.es.length : Int)) || decide (200 < (s.free.length : Int))
def orderR (s : St) (i : Nat) : Bool := decide (s.nx ≤ fld (rec s.es i) 0) || (decide (0 < (i : Int)) && decide (fld (rec s.es i) 0 ≤ fld (rec s.es (i - 1)) 0))
def sameR (u v : List Int) : Bool := fld u 3 == fld v 3 && fld u 4 == fld v 4
def placeR (es : List (List Int)) (i : Nat) : Bool := (List.range i).any fun k => sameR (rec es k) (rec es i)
def oneAtR (nw : Bool) (s : St) (i : Nat) : Int :=
  if 0 < oneR nw s.t (rec s.es i) then oneR nw s.t (rec s.es i) else if orderR s i = true then 3 else if placeR s.es i = true then 3 else 0
def aimBadR (nw : Bool) (es : List (List Int)) (i : Nat) : Bool :=
  decide (fld (rec es i) 9 ≠ 0) && (decide (whoZ (fld (rec es i) 9) es < 0) || mayZ nw (rec es i) (rec es (whoZ (fld (rec es i) 9) es).toNat) != fld (rec es i) 6)
def cntR (s : St) (id : Int) : Int := (s.free.count id : Int) + (if 0 ≤ whoZ id s.es then 1 else 0)
def freeR (s : St) : Int := if ∀ j, j < (s.nx - 1).toNat → cntR s ((j : Int) + 1) = 1 then (if (s.free.length : Int) + (s.es.length : Int) = s.nx - 1 then 0 else 3) else 3
def firstR (nw : Bool) (s : St) : Nat := firstE s.es.length fun i => (oneAtR nw s i).toNat
def tailR (nw : Bool) (s : St) : Int := if firstR nw s = 0 then (if ∀ i, i < s.es.length → aimBadR nw s.es i = false then (if nw = true then 0 else freeR s) else 3) else (firstR nw s : Int)
def faultR (nw : Bool) (s : St) : Int := if headR nw s = true then 1 else if manyR s = true then 2 else tailR nw s
theorem oneR_bd (nw : Bool) (t : Int) (u : List Int) : 0 ≤ oneR nw t u ∧ oneR nw t u ≤ 3 := by
  unfold oneR shapeR
  split
  · omega
  · split
    · omega
    · split <;> omega
structure FG (w : World) (p : Nat) (nw : Bool) (s : St) (ua fa : Option Addr) (uc fc : Nat) (bv : Value) : Prop where
  hp : w.heap[p]? = some (.cells (refC nw s (.slice fa s.free.length fc) (.slice ua s.es.length uc) bv) 147)
  ur : Recs w ua 11 s.es
  fr : Nums w fa s.free
section
variable {w w' : World} {p : Nat} {nw : Bool} {s : St} {ua fa : Option Addr} {uc fc : Nat} {bv : Value}
theorem FG.lt (h : FG w p nw s ua fa uc fc bv) : p < w.heap.size := (Array.getElem?_eq_some_iff.1 h.hp).1
theorem FG.below (h : FG w p nw s ua fa uc fc bv) (hb : Below w.heap.size w w') : FG w' p nw s ua fa uc fc bv :=
  ⟨(hb.block p h.lt).trans h.hp, h.ur.below hb, h.fr.below hb⟩
theorem FG.seven (h : FG w p nw s ua fa uc fc bv) : w.cell? ⟨p, 0, none⟩ = some (.bool nw) ∧ w.cell? ⟨p, 1, none⟩ = some (.int .i64 s.t) ∧ w.cell? ⟨p, 2, none⟩ = some (.int .i64 s.g0) ∧ w.cell? ⟨p, 3, none⟩ = some (.int .i64 s.g1) ∧ w.cell? ⟨p, 4, none⟩ = some (.int .i64 s.nx) ∧ w.cell? ⟨p, 5, none⟩ = some (.slice fa s.free.length fc) ∧ w.cell? ⟨p, 6, none⟩ = some (.slice ua s.es.length uc) :=
  ⟨cell_of_row w p 0 _ _ _ h.hp, cell_of_row w p 1 _ _ _ h.hp, cell_of_row w p 2 _ _ _ h.hp, cell_of_row w p 3 _ _ _ h.hp, cell_of_row w p 4 _ _ _ h.hp, cell_of_row w p 5 _ _ _ h.hp, cell_of_row w p 6 _ _ _ h.hp⟩
end
theorem GrE.fg {base : Nat} {w : World} {p : Nat} {nw : Bool} {s : St} (h : GrE base w p nw s) : ∃ ua fa uc fc bv, FG w p nw s ua fa uc fc bv := by
  obtain ⟨uv, fv, bv, h⟩ := h
  obtain ⟨ea, c, rfl, _, hr, _⟩ := h.er.open
  obtain ⟨fa, fc, rfl, _, hf, _⟩ := h.fr.open
  exact ⟨ea, fa, c, fc, bv, h.hp, hr, hf⟩
theorem top_wrap (nw : Bool) : IntKind.i64.wrap (topZ nw + 1) = topZ nw + 1 := by cases nw <;> rfl
set_option maxRecDepth 100000 in
set_option maxHeartbeats 8000000 in
theorem fault_head (p : Nat) (nw : Bool) (s : St) (ua fa : Option Addr) (uc fc : Nat) (bv : Value) (w : World) (h : FG w p nw s ua fa uc fc bv) (hh : headR nw s = true) :
    Calls Try.prog 44 #[.pointer (some ⟨p, 0, none⟩)] w fun e w' => e = .returned (.int .i64 1) ∧ Below w.heap.size w w' := by
  obtain ⟨c0, c1, c2, c3, c4, c5, c6⟩ := h.seven
  have HC0 := hid c0
  have hr := topZ_bd nw
  have hwr := top_wrap nw
  clear h
  go_enter Try.func44, Try.ntmps44
  go_wp2_with fail
  refine (bounds_calls p nw _ HC0.out).mono ?_
  rintro e w1 ⟨rfl, rfl⟩
  clear c0 c5 c6
  unfold headR at hh
  rcases tf (decide (s.t < 0)) (tf (decide (60 < s.t)) (tf (decide (s.nx < 1)) (tf (decide (topZ nw + 1 < s.nx)) (tf (decide (s.g0 < 0)) (tf (decide (richZ nw < s.g0)) (tf (decide (s.g1 < 0)) trivial)))))) with h1 | ⟨h1, h2 | ⟨h2, h3 | ⟨h3, h4 | ⟨h4, h5 | ⟨h5, h6 | ⟨h6, h7 | ⟨h7, _⟩⟩⟩⟩⟩⟩⟩
  case inr.inr.inr.inr.inr.inr.inr =>
    have h8 : decide (richZ nw < s.g1) = true := by simpa only [h1, h2, h3, h4, h5, h6, h7, Bool.false_or] using hh
    clear hh
    go_wp2
    go_ret
    exact ⟨rfl, Below.refl _ _⟩
  all_goals
    clear hh
    go_wp2
    go_ret
    exact ⟨rfl, Below.refl _ _⟩
end Go.Proofs.Ytgiieepfhohmhaa

/- A tick under way: parts of build. -/
import Derived.Test.YtakmjfchhchngaaGh
namespace Go.Proofs.Ytakmjfchhchngaa
open Go.RowKit Go.Maps

abbrev cmdV (q : List Int) : Value := .agg #[.int .i64 (fld q 0), .int .i64 (fld q 1), .int .i64 (fld q 2), .int .i64 (fld q 3), .int .i64 (fld q 4), .int .i64 (fld q 5), .int .i64 (fld q 6)]
abbrev cmdC (q : List Int) : Array Value := #[.int .i64 (fld q 0), .int .i64 (fld q 1), .int .i64 (fld q 2), .int .i64 (fld q 3), .int .i64 (fld q 4), .int .i64 (fld q 5), .int .i64 (fld q 6)]
abbrev ruleC (k : Int) : Array Value := #[.int .i64 (Pl.eCost k), .int .i64 (Pl.eHP k), .int .i64 (Pl.eSpeed k), .int .i64 (Pl.eHarm k), .int .i64 (Pl.eRange k), .int .i64 (Pl.eLoad k)]

def goldOf (s : St) (o : Int) : Int := if o = 0 then s.g0 else s.g1
def payS (s : St) (o c : Int) : St := if o = 0 then { s with g0 := s.g0 - c } else { s with g1 := s.g1 - c }
def takeS (s : St) : Option (Int × St) :=
  if s.free = [] then (if 200 < s.nx then none else some (s.nx, { s with nx := s.nx + 1 })) else some (fld s.free (s.free.length - 1), { s with free := s.free.take (s.free.length - 1) })
def newU (id o k x y : Int) : List Int := [id, o, k, x, y, Pl.eHP k, 0, 0, 0, 0]
def mayBuild (s : St) (u q : List Int) : Bool :=
  Pl.eHas (fld q 3) && (fld q 3 != 4 && (fld u 2 == 1 && (roomE s.es u (fld q 4) (fld q 5) && (decide (Pl.eCost (fld q 3) ≤ goldOf s (fld u 1)) && decide (s.es.length < 20)))))
def buildS (s : St) (u q : List Int) : St :=
  if mayBuild s u q = true then
    match takeS s with
    | none => s
    | some (id, s1) => { payS s1 (fld u 1) (Pl.eCost (fld q 3)) with es := insE s1.es (newU id (fld u 1) (fld q 3) (fld q 4) (fld q 5)), born := s1.born ++ [id] }
  else s

theorem takeID_some (base p : Nat) (s : St) (was : Int → Int) (w : World) (id : Int) (s1 : St) (ht : takeS s = some (id, s1)) (hn0 : 0 ≤ s.nx) (hfl : s.free.length ≤ 1000) (h : GmE base w p s was) :
    Calls Try.prog 143 #[.pointer (some ⟨p, 0, none⟩)] w fun e w' => e = .returned (.tuple #[.int .i64 id, .bool true]) ∧ GmE base w' p s1 was ∧ Below base w w' ∧ Fr w w' p := by
  unfold takeS at ht
  split at ht
  next hf =>
    split at ht
    · cases ht
    · cases ht
      exact takeID_next base p s was w hf (by omega) hn0 h
  next hf =>
    cases ht
    have hl : 0 < s.free.length := List.length_pos_iff.2 hf
    exact takeID_free base p s was w (s.free.length - 1) (by omega) (by omega) h
theorem takeID_no (base p : Nat) (s : St) (was : Int → Int) (w : World) (ht : takeS s = none) (h : GmE base w p s was) :
    Calls Try.prog 143 #[.pointer (some ⟨p, 0, none⟩)] w fun e w' => e = .returned (.tuple #[.int .i64 0, .bool false]) ∧ w' = w := by
  unfold takeS at ht
  split at ht
  next hf =>
    split at ht
    · exact takeID_none base p s was w hf (by omega) h
    · cases ht
  · cases ht

/- What an append to those that came leaves as it was. -/
theorem Gm.grownB {base : Nat} {w w' : World} {p : Nat} {ev fv bv : Value} {B : Nat} {s : St} {was : Int → Int} (h : Gm base w p ev fv bv B s was) (hg : w.grownBy w' bv.ownBlock) :
    w'.heap[p]? = some (.cells (gameC s fv ev bv B) 125) ∧ Row base w' ev s.es ∧ NRow base w' fv s.free ∧ Counts w' B 1000 was := by
  obtain ⟨me, mc, hm⟩ := h.ct.isMap
  have hB : B < w.heap.size := (Array.getElem?_eq_some_iff.1 hm).1
  refine ⟨(hg.block p h.lt (fun e => row_ne h.br h.hp (by decide) e.symm)).trans h.hp, World.ownsRow.kept h.er hg (row_row_ne h.er h.br (by decide)), World.ownsRow.kept h.fr hg h.fb, h.ct.other (hg.block B hB (fun e => row_ne_map h.br hm e.symm))⟩
theorem Gm.apartNew {base : Nat} {w w' : World} {p : Nat} {ev fv bv : Value} {B : Nat} {s : St} {was : Int → Int} (h : Gm base w p ev fv bv B s was) (hb : Below w.heap.size w w') {k : Nat} (hk : w.heap.size ≤ k) : Apart w' p k := by
  refine (h.below hb).apart.2 ⟨by have := h.lt; omega, fun e => ?_, fun e => ?_, fun e => ?_, fun e => ?_⟩
  · have := (World.ownsRow.lt h.er k e).2; omega
  · have := (World.ownsRow.lt h.fr k e).2; omega
  · have := (World.ownsRow.lt h.br k e).2; omega
  · obtain ⟨me, mc, hm⟩ := h.ct.isMap
    have hB : B < w.heap.size := (Array.getElem?_eq_some_iff.1 hm).1
    omega
theorem GmE.apartNew {base : Nat} {w w' : World} {p : Nat} {s : St} {was : Int → Int} (h : GmE base w p s was) (hb : Below w.heap.size w w') {k : Nat} (hk : w.heap.size ≤ k) : Apart w' p k := by
  obtain ⟨ev, fv, bv, B, h⟩ := h
  exact h.apartNew hb hk
theorem GmE.lt {base : Nat} {w : World} {p : Nat} {s : St} {was : Int → Int} (h : GmE base w p s was) : base ≤ p ∧ p < w.heap.size := by
  obtain ⟨ev, fv, bv, B, h⟩ := h
  exact ⟨h.bp, h.lt⟩

theorem nums_one (w : World) (x : Int) (t : TypeId) : Nums (w.alloc (.cells #[.int .i64 x] t)) (some ⟨w.heap.size, 0, none⟩) [x] := by
  refine Or.inr ⟨w.heap.size, 0, rfl, fun i hi => ?_⟩
  have h0 : i = 0 := by simpa using hi
  subst h0
  rw [World.cell?_alloc_at _ _ _ _ rfl]
  rfl

/- Gold is paid. -/
theorem gm_pay {base : Nat} {w : World} {p : Nat} {s : St} {was : Int → Int} (h : GmE base w p s was) (o c : Int) (ho : o = 0 ∨ o = 1) :
    GmE base (w.setCell ⟨p, 1 + o.toNat, none⟩ (.int .i64 (goldOf s o - c))) p (payS s o c) was ∧ Fr w (w.setCell ⟨p, 1 + o.toNat, none⟩ (.int .i64 (goldOf s o - c))) p ∧ w.cell? ⟨p, 1 + o.toNat, none⟩ = some (.int .i64 (goldOf s o)) ∧ w.frozen? ⟨p, 1 + o.toNat, none⟩ = false := by
  obtain ⟨ev, fv, bv, B, h⟩ := h
  rcases ho with rfl | rfl
  · have hg : Gm base (w.setCell ⟨p, 1, none⟩ (.int .i64 (s.g0 - c))) p ev fv bv B (payS s 0 c) was := h.pset 1 (.int .i64 (s.g0 - c)) (s' := payS s 0 c) rfl h.er h.fr h.br h.fb
    exact ⟨⟨ev, fv, bv, B, hg⟩, h.setFrame hg rfl rfl rfl, h.cell 1, h.frozen 1⟩
  · have hg : Gm base (w.setCell ⟨p, 2, none⟩ (.int .i64 (s.g1 - c))) p ev fv bv B (payS s 1 c) was := h.pset 2 (.int .i64 (s.g1 - c)) (s' := payS s 1 c) rfl h.er h.fr h.br h.fb
    exact ⟨⟨ev, fv, bv, B, hg⟩, h.setFrame hg rfl rfl rfl, h.cell 2, h.frozen 2⟩
end Go.Proofs.Ytakmjfchhchngaa

/- A tick under way: the program's game in memory, and what stores do to it. -/
import Derived.Test.YtakmjfchhchngaaMem
namespace Go.Proofs.Ytakmjfchhchngaa
open Go.RowKit Go.Maps

structure St where
  t : Int
  g0 : Int
  g1 : Int
  nx : Int
  free : List Int
  es : List (List Int)
  born : List Int

abbrev gameC (s : St) (fv ev bv : Value) (B : Nat) : Array Value := #[.int .i64 s.t, .int .i64 s.g0, .int .i64 s.g1, .int .i64 s.nx, fv, ev, .map (some B), bv]

structure Gm (base : Nat) (w : World) (p : Nat) (ev fv bv : Value) (B : Nat) (s : St) (was : Int → Int) : Prop where
  hp : w.heap[p]? = some (.cells (gameC s fv ev bv B) 125)
  er : Row base w ev s.es
  fr : NRow base w fv s.free
  br : NRow base w bv s.born
  ct : Counts w B 1000 was
  bp : base ≤ p
  bB : base ≤ B
  fb : fv.ownBlock = none ∨ fv.ownBlock ≠ bv.ownBlock

theorem Counts.other {w w' : World} {B n : Nat} {f : Int → Int} (h : Counts w B n f) (hb : w'.heap[B]? = w.heap[B]?) : Counts w' B n f := by
  obtain ⟨D, h1, h2, h3⟩ := h
  obtain ⟨es, clock, hh, F, hs, hD⟩ := h1
  exact ⟨D, ⟨es, clock, hb.trans hh, F, hs, hD⟩, h2, h3⟩
theorem Counts.isMap {w : World} {B n : Nat} {f : Int → Int} (h : Counts w B n f) : ∃ es clock, w.heap[B]? = some (.map es clock) := by
  obtain ⟨D, h1, h2, h3⟩ := h
  obtain ⟨es, clock, hh, F, hs, hD⟩ := h1
  exact ⟨es, clock, hh⟩
theorem row_ne {w : World} {base : Nat} {e : TypeId} {size : Nat} {v : Value} {n : Nat} {xs : List Value} (h : w.ownsRow base e size v n xs) {p : Nat} {c : Array Value} {t : TypeId} {fz : Nat × Nat} (hp : w.heap[p]? = some (.cells c t fz)) (ht : t ≠ e) : v.ownBlock ≠ some p := by
  intro hv
  rcases h.2 with ⟨rfl, _⟩ | ⟨g, cap, cur, rfl, hbg, hgg, rest⟩
  · cases hv
  · simp only [Value.ownBlock, Option.some.injEq] at hv
    subst hv
    rw [hgg] at hp
    simp only [Option.some.injEq, Obj.cells.injEq] at hp
    exact ht hp.2.1.symm
theorem row_ne_map {w : World} {base : Nat} {e : TypeId} {size : Nat} {v : Value} {n : Nat} {xs : List Value} (h : w.ownsRow base e size v n xs) {p : Nat} {es : Array MapEntry} {c : Nat} (hp : w.heap[p]? = some (.map es c)) : v.ownBlock ≠ some p := by
  intro hv
  rcases h.2 with ⟨rfl, _⟩ | ⟨g, cap, cur, rfl, hbg, hgg, rest⟩
  · cases hv
  · simp only [Value.ownBlock, Option.some.injEq] at hv
    subst hv
    rw [hgg] at hp
    cases hp

section
variable {base : Nat} {w : World} {p : Nat} {ev fv bv : Value} {B : Nat} {s : St} {was : Int → Int}

theorem Gm.lt (h : Gm base w p ev fv bv B s was) : p < w.heap.size := (Array.getElem?_eq_some_iff.1 h.hp).1
theorem Gm.pB (h : Gm base w p ev fv bv B s was) : p ≠ B := by
  intro e
  obtain ⟨es, c, hm⟩ := h.ct.isMap
  rw [← e, h.hp] at hm
  cases hm
theorem Gm.below {w' : World} (h : Gm base w p ev fv bv B s was) (hb : Below w.heap.size w w') : Gm base w' p ev fv bv B s was :=
  ⟨(hb.block p h.lt).trans h.hp, row_below h.er hb, row_below h.fr hb, row_below h.br hb, h.ct.below hb, h.bp, h.bB, h.fb⟩
theorem Gm.cell (h : Gm base w p ev fv bv B s was) (j : Nat) : w.cell? ⟨p, j, none⟩ = (gameC s fv ev bv B)[j]? := cell_of_row w p j _ _ _ h.hp
theorem Gm.frozen (h : Gm base w p ev fv bv B s was) (j : Nat) : w.frozen? ⟨p, j, none⟩ = false := frozen_of_row w p j _ _ h.hp
theorem Gm.eight (h : Gm base w p ev fv bv B s was) : w.cell? ⟨p, 0, none⟩ = some (.int .i64 s.t) ∧ w.cell? ⟨p, 1, none⟩ = some (.int .i64 s.g0) ∧ w.cell? ⟨p, 2, none⟩ = some (.int .i64 s.g1) ∧ w.cell? ⟨p, 3, none⟩ = some (.int .i64 s.nx) ∧ w.cell? ⟨p, 4, none⟩ = some fv ∧ w.cell? ⟨p, 5, none⟩ = some ev ∧ w.cell? ⟨p, 6, none⟩ = some (.map (some B)) ∧ w.cell? ⟨p, 7, none⟩ = some bv :=
  ⟨h.cell 0, h.cell 1, h.cell 2, h.cell 3, h.cell 4, h.cell 5, h.cell 6, h.cell 7⟩

/- A store into the game itself. -/
theorem Gm.pset (h : Gm base w p ev fv bv B s was) (j : Nat) (v : Value) {s' : St} {ev' fv' bv' : Value} (harr : (gameC s fv ev bv B).setIfInBounds j v = gameC s' fv' ev' bv' B)
    (er : Row base w ev' s'.es) (fr : NRow base w fv' s'.free) (br : NRow base w bv' s'.born) (fb : fv'.ownBlock = none ∨ fv'.ownBlock ≠ bv'.ownBlock) : Gm base (w.setCell ⟨p, j, none⟩ v) p ev' fv' bv' B s' was := by
  have ho : ∀ k, k ≠ p → (w.setCell ⟨p, j, none⟩ v).heap[k]? = w.heap[k]? := fun k hk => heap_setCell_other w ⟨p, j, none⟩ k v (fun e => hk e)
  refine ⟨?_, ?_, ?_, ?_, ?_, h.bp, h.bB, fb⟩
  · rw [← harr]
    exact heap_setCell_same w p j _ _ v h.hp
  · exact row_other er fun g hg => ho g fun e => row_ne er h.hp (by decide) (by rw [hg, e])
  · exact row_other fr fun g hg => ho g fun e => row_ne fr h.hp (by decide) (by rw [hg, e])
  · exact row_other br fun g hg => ho g fun e => row_ne br h.hp (by decide) (by rw [hg, e])
  · exact h.ct.other (ho B (fun e => h.pB e.symm))

/- A store into the row of those that are there. -/
theorem gm_rput {g n c : Nat} (h : Gm base w p (.slice (some ⟨g, 0, none⟩) n c) fv bv B s was) {i j : Nat} (hi : i < s.es.length) (hj : j < 10) (v : Int) :
    Gm base (w.setCell ⟨g, i * 10 + j, none⟩ (.int .i64 v)) p (.slice (some ⟨g, 0, none⟩) n c) fv bv B { s with es := s.es.set i (updR 10 (rec s.es i) j v) } was := by
  have hgb : (Value.slice (some ⟨g, 0, none⟩) n c).ownBlock = some g := rfl
  have ho : ∀ k, k ≠ g → (w.setCell ⟨g, i * 10 + j, none⟩ (.int .i64 v)).heap[k]? = w.heap[k]? := fun k hk => heap_setCell_other w ⟨g, i * 10 + j, none⟩ k _ (fun e => hk e)
  have hgp : p ≠ g := fun e => row_ne h.er h.hp (by decide) (by rw [hgb, e])
  have hrow : ∃ cur, w.heap[g]? = some (.cells cur 86 (0, 0)) := by
    rcases h.er.2 with ⟨h', _⟩ | ⟨g', cap', cur, h', _, hg, _⟩
    · cases h'
    · cases h'; exact ⟨cur, hg⟩
  obtain ⟨cur, hcur⟩ := hrow
  obtain ⟨me, mc, hm⟩ := h.ct.isMap
  refine ⟨(ho p hgp).trans h.hp, h.er.put hi hj v, ?_, ?_, h.ct.other (ho B (fun e => by rw [e, hcur] at hm; cases hm)), h.bp, h.bB, h.fb⟩
  · exact row_other h.fr fun q hq => ho q fun e => row_ne h.fr hcur (by decide) (by rw [hq, e])
  · exact row_other h.br fun q hq => ho q fun e => row_ne h.br hcur (by decide) (by rw [hq, e])
end
end Go.Proofs.Ytakmjfchhchngaa

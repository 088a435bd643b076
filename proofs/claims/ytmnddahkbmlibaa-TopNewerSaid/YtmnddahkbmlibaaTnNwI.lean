/- Package newer of the program: a tick under way in memory, and what stores do to it. -/
import Derived.Test.YtmnddahkbmlibaaTnNwH
namespace Go.Proofs.Ytmnddahkbmlibaa
open Go.RowKit Go.Maps
def Who (w : World) (B : Nat) (f : Int → Option Value) : Prop := ∃ l, WM w B l ∧ ∀ id, getL id l = f id
def putF (f : Int → Option Value) (k : Int) (v : Value) : Int → Option Value := fun id => if id = k then some v else f id
theorem Who.made (w : World) : Who (w.alloc (.map #[] 0)) w.heap.size (fun _ => none) := ⟨[], WM.made w, fun _ => rfl⟩
theorem Who.other {w w' : World} {B : Nat} {f : Int → Option Value} (h : Who w B f) (hb : w'.heap[B]? = w.heap[B]?) : Who w' B f := by
  obtain ⟨l, h1, h2⟩ := h
  exact ⟨l, h1.other hb, h2⟩
theorem Who.lt {w : World} {B : Nat} {f : Int → Option Value} (h : Who w B f) : B < w.heap.size := by
  obtain ⟨l, h1, h2⟩ := h
  exact h1.lt
theorem Who.below {w w' : World} {B : Nat} {f : Int → Option Value} (h : Who w B f) (hb : Below w.heap.size w w') : Who w' B f := h.other (hb.block B h.lt)
theorem Who.isMap {w : World} {B : Nat} {f : Int → Option Value} (h : Who w B f) : ∃ es clock, w.heap[B]? = some (.map es clock) := by
  obtain ⟨l, h1, h2⟩ := h
  exact h1.isMap
theorem Who.look {w : World} {B : Nat} {f : Int → Option Value} (h : Who w B f) (k : Int) : (Instr.lookup 141 (.map (some B)) (inV k) false).run Try.prog w = .ok ((f k).getD (inV 0)) w := by
  obtain ⟨l, h1, h2⟩ := h
  rw [h1.look k, h2]
theorem Who.lookOk {w : World} {B : Nat} {f : Int → Option Value} (h : Who w B f) (k : Int) : (Instr.lookup 141 (.map (some B)) (inV k) true).run Try.prog w = .ok (.tuple #[(f k).getD (inV 0), .bool (f k).isSome]) w := by
  obtain ⟨l, h1, h2⟩ := h
  rw [h1.lookOk k, h2]
theorem Who.put {w : World} {B : Nat} {f : Int → Option Value} (h : Who w B f) (k : Int) (v : Value) :
    ∃ w', (Instr.mapUpdate 141 (.map (some B)) (inV k) v).run Try.prog w = .ok () w' ∧ Who w' B (putF f k v) ∧ w.grownBy w' (some B) := by
  obtain ⟨l, h1, h2⟩ := h
  obtain ⟨w', hr, hw, hg⟩ := h1.put k v
  refine ⟨w', hr, ⟨_, hw, fun id => ?_⟩, hg⟩
  rw [getL_put, h2]
  rfl
theorem Who.clear {w : World} {B : Nat} {f : Int → Option Value} (h : Who w B f) :
    ∃ w', (∀ ty, (Builtin.clear_ #[141] ty #[.map (some B)]).run Try.prog w = .ok (.tuple #[]) w') ∧ Who w' B (fun _ => none) ∧ w.grownBy w' (some B) := by
  obtain ⟨l, h1, h2⟩ := h
  obtain ⟨w', hr, hw, hg⟩ := h1.clear
  exact ⟨w', hr, ⟨_, hw, fun _ => rfl⟩, hg⟩
def whoK (es : List (List Int)) : Nat → Int → Option Value
  | 0, _ => none
  | k + 1, id => if id = fld (rec es k) 0 then some (inV k) else whoK es k id
theorem whoK_succ (es : List (List Int)) (k : Nat) : whoK es (k + 1) = putF (whoK es k) (fld (rec es k) 0) (inV k) := rfl
abbrev nwC (s : St) (uv : Value) (B : Nat) (old : Int) : Array Value := #[.int .i64 s.t, .int .i64 s.g0, .int .i64 s.g1, .int .i64 s.nx, uv, .map (some B), .int .i64 old]
structure GmN (base : Nat) (w : World) (p : Nat) (uv : Value) (B : Nat) (s : St) (f : Int → Option Value) (old : Int) : Prop where
  hp : w.heap[p]? = some (.cells (nwC s uv B old) 162)
  er : RowU base w uv s.es
  wh : Who w B f
  bp : base ≤ p
  bB : base ≤ B
section
variable {base : Nat} {w : World} {p : Nat} {uv : Value} {B : Nat} {s : St} {f : Int → Option Value} {old : Int}
theorem GmN.lt (h : GmN base w p uv B s f old) : p < w.heap.size := (Array.getElem?_eq_some_iff.1 h.hp).1
theorem GmN.pB (h : GmN base w p uv B s f old) : p ≠ B := by
  intro e
  obtain ⟨es, c, hm⟩ := h.wh.isMap
  rw [← e, h.hp] at hm
  cases hm
theorem GmN.below {w' : World} (h : GmN base w p uv B s f old) (hb : Below w.heap.size w w') : GmN base w' p uv B s f old :=
  ⟨(hb.block p h.lt).trans h.hp, row_below h.er hb, h.wh.below hb, h.bp, h.bB⟩
theorem GmN.cell (h : GmN base w p uv B s f old) (j : Nat) : w.cell? ⟨p, j, none⟩ = (nwC s uv B old)[j]? := cell_of_row w p j _ _ _ h.hp
theorem GmN.frozen (h : GmN base w p uv B s f old) (j : Nat) : w.frozen? ⟨p, j, none⟩ = false := frozen_of_row w p j _ _ h.hp
theorem GmN.pset (h : GmN base w p uv B s f old) (j : Nat) (v : Value) {s' : St} {uv' : Value} {old' : Int} (harr : (nwC s uv B old).setIfInBounds j v = nwC s' uv' B old')
    (er : RowU base w uv' s'.es) : GmN base (w.setCell ⟨p, j, none⟩ v) p uv' B s' f old' := by
  have ho : ∀ k, k ≠ p → (w.setCell ⟨p, j, none⟩ v).heap[k]? = w.heap[k]? := fun k hk => heap_setCell_other w ⟨p, j, none⟩ k v (fun e => hk e)
  refine ⟨?_, ?_, h.wh.other (ho B (fun e => h.pB e.symm)), h.bp, h.bB⟩
  · rw [← harr]
    exact heap_setCell_same w p j _ _ v h.hp
  · exact row_other er fun g hg => ho g fun e => row_ne er h.hp (by decide) (by rw [hg, e])
theorem gmN_rput {g n c : Nat} (h : GmN base w p (.slice (some ⟨g, 0, none⟩) n c) B s f old) {i j : Nat} (hi : i < s.es.length) (hj : j < 11) (v : Int) :
    GmN base (w.setCell ⟨g, i * 11 + j, none⟩ (.int .i64 v)) p (.slice (some ⟨g, 0, none⟩) n c) B { s with es := s.es.set i (updR 11 (rec s.es i) j v) } f old := by
  have hgb : (Value.slice (some ⟨g, 0, none⟩) n c).ownBlock = some g := rfl
  have ho : ∀ k, k ≠ g → (w.setCell ⟨g, i * 11 + j, none⟩ (.int .i64 v)).heap[k]? = w.heap[k]? := fun k hk => heap_setCell_other w ⟨g, i * 11 + j, none⟩ k _ (fun e => hk e)
  have hgp : p ≠ g := fun e => row_ne h.er h.hp (by decide) (by rw [hgb, e])
  have hrow : ∃ cur, w.heap[g]? = some (.cells cur 110 (0, 0)) := by
    rcases h.er.2 with ⟨h', _⟩ | ⟨g', cap', cur, h', _, hg, _⟩
    · cases h'
    · cases h'; exact ⟨cur, hg⟩
  obtain ⟨cur, hcur⟩ := hrow
  obtain ⟨me, mc, hm⟩ := h.wh.isMap
  exact ⟨(ho p hgp).trans h.hp, h.er.put hi hj v, h.wh.other (ho B (fun e => by rw [e, hcur] at hm; cases hm)), h.bp, h.bB⟩
theorem GmN.marked {w' : World} {f' : Int → Option Value} (h : GmN base w p uv B s f old) (hg : w.grownBy w' (some B)) (hw : Who w' B f') : GmN base w' p uv B s f' old := by
  obtain ⟨me, mc, hm⟩ := h.wh.isMap
  exact ⟨(hg.block p h.lt (fun e => h.pB (by simpa using e))).trans h.hp, World.ownsRow.kept h.er hg (Or.inr (row_ne_map h.er hm)), hw, h.bp, h.bB⟩
theorem gmN_tell {g n c : Nat} (h : GmN base w p (.slice (some ⟨g, 0, none⟩) n c) B s f old) {i : Nat} (hi : i < s.es.length) (d x y t : Int) :
    GmN base (tellW w g (i * 11) d x y t) p (.slice (some ⟨g, 0, none⟩) n c) B { s with es := s.es.set i (tellR (rec s.es i) d x y t) } f old := by
  have h1 := gmN_rput h hi (j := 6) (by omega) d
  have h2 := gmN_rput h1 (i := i) (by simpa using hi) (j := 7) (by omega) x
  have h3 := gmN_rput h2 (i := i) (by simpa using hi) (j := 8) (by omega) y
  have h4 := gmN_rput h3 (i := i) (by simpa using hi) (j := 9) (by omega) t
  simp only [set_set] at h4
  rw [rec_set_same (by simpa using hi), rec_set_same (by simpa using hi), rec_set_same (by simpa using hi)] at h4
  exact h4
theorem turnW_tell (w : World) (g m : Nat) (d : Int) : turnW w g m d = tellW w g m d 0 0 0 := rfl
end
end Go.Proofs.Ytmnddahkbmlibaa

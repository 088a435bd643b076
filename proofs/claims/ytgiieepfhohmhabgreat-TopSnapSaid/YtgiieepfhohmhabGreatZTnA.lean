/- The newer game: who is there behind a tick; IDs, gold and ore. Plain. -/
import Derived.Deep.RegionHeld3
import Derived.Deep.DeepCutAuto
import Derived.BigRegion
import Derived.BigQuiet
import Derived.Lib.SliceRun
import Derived.Test.YtgiieepfhohmhabGreatZOkA
import Derived.Test.YtgiieepfhohmhabGreatZNwG
import Derived.Test.YtgiieepfhohmhabGreatZNwK
import Derived.Test.YtgiieepfhohmhabGreatZNwO
import Derived.Test.YtgiieepfhohmhabGreatZRefEA
import Derived.Test.YtgiieepfhohmhabGreatZInvZ
import Derived.Test.YtgiieepfhohmhabGreatZRefBA
import Derived.Test.YtgiieepfhohmhabGreatZNwF
namespace Go.Proofs.YtgiieepfhohmhabGreat
open Go.RowKit Go.Maps
def stepN (s : St) (l : List (List Int)) : St := endO (ordsN s l) (idsE s.es)
end Go.Proofs.YtgiieepfhohmhabGreat
namespace Go.Proofs.YtgiieepfhohmhabGreat
open Go.RowKit Go.Maps
structure InE (w : World) (s : St) (fa ea : Option Addr) (fc ec : Nat) : Prop where
  fn : fa = none → fc = 0
  en : ea = none → ec = 0
  cap : s.es.length ≤ ec
  rows : Recs w ea 10 s.es
  nums : Nums w fa s.free
  wf : ∀ i, i < s.free.length → (Lit.int .i64 (fld s.free i)).wf = true
  born : s.born = []
theorem InE.below {w w' : World} {s : St} {fa ea : Option Addr} {fc ec : Nat} (h : InE w s fa ea fc ec) (hb : Below w.heap.size w w') : InE w' s fa ea fc ec :=
  ⟨h.fn, h.en, h.cap, h.rows.below hb, h.nums.below hb, h.wf, h.born⟩
theorem errV_zero : errV 0 = .nilIface := rfl
theorem errV_some {c : Nat} (h : c ≠ 0) : errV c = .iface 112 (.int .i64 c) := by unfold errV; rw [if_neg h]
theorem elder_cells {w : World} {b : Nat} {a0 a1 a2 a3 a4 a5 : Value} (h : w.heap[b]? = some (.cells #[a0, a1, a2, a3, a4, a5] 29)) :
    w.cell? ⟨b, 0, none⟩ = some a0 ∧ w.cell? ⟨b, 1, none⟩ = some a1 ∧ w.cell? ⟨b, 2, none⟩ = some a2 ∧ w.cell? ⟨b, 3, none⟩ = some a3 ∧ w.cell? ⟨b, 4, none⟩ = some a4 ∧ w.cell? ⟨b, 5, none⟩ = some a5 :=
  ⟨cell_of_row w b 0 _ _ _ h, cell_of_row w b 1 _ _ _ h, cell_of_row w b 2 _ _ _ h, cell_of_row w b 3 _ _ _ h, cell_of_row w b 4 _ _ _ h, cell_of_row w b 5 _ _ _ h⟩
end Go.Proofs.YtgiieepfhohmhabGreat
namespace Go.Proofs.YtgiieepfhohmhabGreat
open Go.RowKit Go.Maps
structure InW (w : World) (s : St) (ua : Option Addr) (uc : Nat) : Prop where
  un : ua = none → uc = 0
  cap : s.es.length ≤ uc
  rows : Recs w ua 11 s.es
  fr : s.free = []
  born : s.born = []
theorem InW.below {w w' : World} {s : St} {ua : Option Addr} {uc : Nat} (h : InW w s ua uc) (hb : Below w.heap.size w w') : InW w' s ua uc := ⟨h.un, h.cap, h.rows.below hb, h.fr, h.born⟩
abbrev ordC (q : List Int) : Array Value := #[.int .i64 (fld q 0), .int .i64 (fld q 1), .int .i64 (fld q 2), .int .i64 (fld q 3), .int .i64 (fld q 4), .int .i64 (fld q 5)]
abbrev ordV (q : List Int) : Value := .agg (ordC q)
end Go.Proofs.YtgiieepfhohmhabGreat
namespace Go.Proofs.YtgiieepfhohmhabGreat
open Go.RowKit Go.Maps
abbrev elC (t g0 g1 nx : Int) (fv ev : Value) : Array Value := #[.int .i64 t, .int .i64 g0, .int .i64 g1, .int .i64 nx, fv, ev]
end Go.Proofs.YtgiieepfhohmhabGreat
namespace Go.Proofs.YtgiieepfhohmhabGreat
open Go.RowKit Go.Maps
end Go.Proofs.YtgiieepfhohmhabGreat
namespace Go.Proofs.YtgiieepfhohmhabGreat
open Go.RowKit Go.Maps
def zeroS : St := ⟨0, 0, 0, 0, [], [], []⟩
def Tks (w : World) (ta : Option Addr) (ls : List (List (List Int))) : Prop :=
  ls = [] ∨ ∃ b o, ta = some ⟨b, o, none⟩ ∧ ∀ i, i < ls.length → ∃ la lc, w.cell? ⟨b, o + i, none⟩ = some (.slice la (ls.getD i []).length lc) ∧ Recs w la 7 (ls.getD i [])
theorem Tks.at {w : World} {ta : Option Addr} {ls : List (List (List Int))} (h : Tks w ta ls) {i : Nat} (hi : i < ls.length) : ∃ b o la lc, ta = some ⟨b, o, none⟩ ∧ w.cell? ⟨b, o + i, none⟩ = some (.slice la (ls.getD i []).length lc) ∧ Recs w la 7 (ls.getD i []) := by
  rcases h with rfl | ⟨b, o, e, hc⟩
  · simp at hi
  · obtain ⟨la, lc, h1, h2⟩ := hc i hi
    exact ⟨b, o, la, lc, e, h1, h2⟩
theorem Tks.below {w w' : World} {ta : Option Addr} {ls : List (List (List Int))} (h : Tks w ta ls) (hb : Below w.heap.size w w') : Tks w' ta ls := by
  rcases h with h | ⟨b, o, e, hc⟩
  · exact Or.inl h
  · refine Or.inr ⟨b, o, e, fun i hi => ?_⟩
    obtain ⟨la, lc, h1, h2⟩ := hc i hi
    exact ⟨la, lc, (hb.cell (p := ⟨b, o + i, none⟩) (World.block_lt_of_cell? w _ h1)).trans h1, h2.below hb⟩
end Go.Proofs.YtgiieepfhohmhabGreat
namespace Go.Proofs.YtgiieepfhohmhabGreat
open Go.RowKit Go.Maps
def ckN (s : St) : Nat := checkN s.t s.g0 s.g1 s.nx s.es
def TksN (w : World) (ta : Option Addr) (ls : List (List (List Int))) : Prop :=
  ls = [] ∨ ∃ b o, ta = some ⟨b, o, none⟩ ∧ ∀ i, i < ls.length → ∃ la lc, w.cell? ⟨b, o + i, none⟩ = some (.slice la (ls.getD i []).length lc) ∧ Recs w la 6 (ls.getD i [])
theorem TksN.at {w : World} {ta : Option Addr} {ls : List (List (List Int))} (h : TksN w ta ls) {i : Nat} (hi : i < ls.length) : ∃ b o la lc, ta = some ⟨b, o, none⟩ ∧ w.cell? ⟨b, o + i, none⟩ = some (.slice la (ls.getD i []).length lc) ∧ Recs w la 6 (ls.getD i []) := by
  rcases h with rfl | ⟨b, o, e, hc⟩
  · simp at hi
  · obtain ⟨la, lc, h1, h2⟩ := hc i hi
    exact ⟨b, o, la, lc, e, h1, h2⟩
theorem TksN.below {w w' : World} {ta : Option Addr} {ls : List (List (List Int))} (h : TksN w ta ls) (hb : Below w.heap.size w w') : TksN w' ta ls := by
  rcases h with h | ⟨b, o, e, hc⟩
  · exact Or.inl h
  · refine Or.inr ⟨b, o, e, fun i hi => ?_⟩
    obtain ⟨la, lc, h1, h2⟩ := hc i hi
    exact ⟨la, lc, (hb.cell (p := ⟨b, o + i, none⟩) (World.block_lt_of_cell? w _ h1)).trans h1, h2.below hb⟩
abbrev reelC (t g0 g1 nx : Int) (uv tv : Value) : Array Value := #[.int .i64 t, .int .i64 g0, .int .i64 g1, .int .i64 nx, uv, tv]
abbrev reelV (t g0 g1 nx : Int) (uv tv : Value) : Value := .agg (reelC t g0 g1 nx uv tv)
end Go.Proofs.YtgiieepfhohmhabGreat
namespace Go.Proofs.YtgiieepfhohmhabGreat
open Go.RowKit Go.Maps
abbrev tapeC (t g0 g1 nx : Int) (fv ev tv : Value) : Array Value := #[.int .i64 t, .int .i64 g0, .int .i64 g1, .int .i64 nx, fv, ev, tv]
abbrev tapeV (t g0 g1 nx : Int) (fv ev tv : Value) : Value := .agg (tapeC t g0 g1 nx fv ev tv)
section
variable (s : St) (fa ea ta : Option Addr) (fc ec tc : Nat) (ls : List (List (List Int))) (n : Int) (w : World)
end
end Go.Proofs.YtgiieepfhohmhabGreat
